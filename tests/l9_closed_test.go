package tests

import (
	"fmt"
	"slices"
	"testing"

	"loop.example/setshadows/impl"
)

func unionByHand(a, b int) int {
	return a | b
}

func meetOfTwoByHand(a, b int) int {
	return a & b
}

// closedByHand asks of each two sets of a family whether what an operation makes of them is in it.
func closedByHand(n int, f []int, operation func(a, b int) int) bool {
	return isPart(combinedByHand(n, f, f, operation), f)
}

// unionOfByHand lists the sets that are the union of all their parts in a family, if there is one.
func unionOfByHand(n int, f []int) []int {
	return where(n, func(s int) bool {
		union, some := 0, false
		for _, x := range f {
			if x|s == s {
				union, some = union|x, true
			}
		}
		return some && union == s
	})
}

// meetOfByHand lists the sets that are the common part of all sets of a family of which they are a part, if there is one.
func meetOfByHand(n int, f []int) []int {
	return where(n, func(s int) bool {
		meet, some := power(n)-1, false
		for _, x := range f {
			if x&s == s {
				meet, some = meet&x, true
			}
		}
		return some && meet == s
	})
}

// primesByHand expects a union closed family, where two sets are enough to make what several make. It leaves out
// what two other sets make.
func primesByHand(f []int) []int {
	made := members([]int{0})
	for i, a := range f {
		for _, b := range f[:i] {
			if a|b != a && a|b != b {
				made[a|b] = true
			}
		}
	}
	return pick(f, func(i int) bool { return !made[f[i]] })
}

func oftenByHand(n int, f []int) (point, times int) {
	for p := n - 1; p >= 0; p-- {
		if with, _ := halvesByHand(f, p); len(with) >= times {
			point, times = p, len(with)
		}
	}
	return point, times
}

// kernelByHand leaves out the points that are not in some set of a family of which the set is a part.
func kernelByHand(n int, f []int, s int) int {
	kernel := 0
	for p := range n {
		if !slices.ContainsFunc(f, func(x int) bool { return x&s == s && x>>p&1 == 0 }) {
			kernel += power(p)
		}
	}
	return kernel
}

// kernelsByHand goes through the sets of a family: each one is a bound for the kernels of all its parts.
func kernelsByHand(n int, f []int) []int {
	kernels := slices.Repeat([]int{power(n) - 1}, power(n))
	for _, x := range f {
		for s := range kernels {
			if x&s == s {
				kernels[s] &= x
			}
		}
	}
	return kernels
}

func isUpByHand(n int, f []int) bool {
	return slices.Equal(closedUpByHand(n, f), f)
}

func isDownByHand(n int, f []int) bool {
	return slices.Equal(closedDownByHand(n, f), f)
}

func upCommonByHand(n int, f, g []int) int {
	in, common := members(f), 0
	for _, s := range g {
		if in[s] {
			common++
		}
	}
	return common*power(n) - len(f)*len(g)
}

// differenceByHand lists the sets that are left when some set of a family loses what it has in common with another one.
func differenceByHand(n int, f []int) []int {
	return combinedByHand(n, f, f, func(a, b int) int { return a - a&b })
}

// closedFamilies has what few sets make by unions, by common parts and by both, with all sets above and with all
// parts; each also without one of its sets, and with one more.
func closedFamilies(n int) [][]int {
	var out [][]int
	for seed := range 12 {
		few := fewOf(allByHand(n), 2+seed%6, seed)
		one := []int{int(mixed(seed, n)) % power(n)}
		for _, f := range [][]int{
			unionOfByHand(n, few),
			meetOfByHand(n, few),
			unionOfByHand(n, meetOfByHand(n, few)),
			closedUpByHand(n, few),
			closedDownByHand(n, few),
		} {
			last := f[int(mixed(seed, n+1))%len(f)]
			out = append(out, f, sortedUnion(f, one), without(f, []int{last}))
		}
	}
	return out
}

// eachFewClosedFamily calls a check for all families of up to three points, and for many of more, closed ones among them.
func eachFewClosedFamily(check func(n int, f []int)) {
	eachOfManyFamilies(check)
	for n := 1; n <= impl.PointsMax; n++ {
		for _, f := range closedFamilies(n) {
			check(n, f)
		}
	}
}

// eachClosedFamily has all families of four points too.
func eachClosedFamily(check func(n int, f []int)) {
	eachFewClosedFamily(check)
	eachFamilyOfFourPoints(func(f []int) { check(4, f) })
}

// downFamilies has all down families of n points, n from 0 to 5: the sets without the last point are one of n - 1
// points, and those with it, less this, are one that is a part of it.
func downFamilies(n int) [][]int {
	if n == 0 {
		return [][]int{nil, {0}}
	}
	var out [][]int
	less := downFamilies(n - 1)
	for _, f := range less {
		for _, g := range less {
			if isPart(g, f) {
				out = append(out, slices.Concat(f, moreByHand(g, power(n-1))))
			}
		}
	}
	return out
}

// moreByHand adds a number to each one of a list.
func moreByHand(list []int, more int) []int {
	var out []int
	for _, x := range list {
		out = append(out, x+more)
	}
	return out
}

func otherByHand(n int, f []int) []int {
	var out []int
	for _, s := range slices.Backward(f) {
		out = append(out, power(n)-1-s)
	}
	return out
}

// eachDownFamily calls a check for all down families of up to five points, and some of more.
func eachDownFamily(check func(n int, f []int)) {
	for n := 1; n <= 5; n++ {
		for _, f := range downFamilies(n) {
			check(n, f)
		}
	}
	for n := 6; n <= impl.PointsMax; n++ {
		for m := range 12 {
			for seed := range 3 {
				check(n, closedDownByHand(n, fewOf(allByHand(n), m, seed)))
			}
		}
	}
}

func TestPromise81PressedIn(t *testing.T) {
	check := func(n int, f []int) {
		want := pressedByHand(n, f)
		if got := impl.PressedIn(n, f); got != want {
			t.Errorf("PressedIn(%d, %v) is %v, want %v", n, f, got, want)
		}
		if !want {
			return
		}
		if !impl.DownIn(n, f) {
			t.Errorf("PressedIn(%d, %v) holds, DownIn does not", n, f)
		}
		all, ok := impl.PressAll(n, f)
		wantList(t, fmt.Sprintf("PressAll(%d, %v)", n, f), all, ok, f)
	}
	eachClosedFamily(check)
	eachDownFamily(check)
}

func TestPromise82TraceAll(t *testing.T) {
	eachClosedFamily(func(n int, f []int) {
		all, ok := impl.TraceAll(n, f)
		if !ok || len(all) < len(f) || !impl.DownIn(n, all) {
			t.Errorf("TraceAll(%d, %v) is %v, %v, which is no down family or has fewer sets", n, f, all, ok)
		}
		if inOrder, ok := impl.PressAll(n, f); !ok || !isPart(inOrder, all) {
			t.Errorf("TraceAll(%d, %v) is %v, PressAll is %v, %v", n, f, all, inOrder, ok)
		}
	})
}

func TestPromise83UnionIn(t *testing.T) {
	eachClosedFamily(func(n int, f []int) {
		want := closedByHand(n, f, unionByHand)
		if got := impl.UnionIn(n, f); got != want {
			t.Errorf("UnionIn(%d, %v) is %v, want %v", n, f, got, want)
		}
		if !want {
			return
		}
		made, ok := impl.UnionOf(n, f)
		wantList(t, fmt.Sprintf("UnionOf(%d, %v)", n, f), made, ok, f)
		if other, ok := impl.FamilyOther(n, f); !ok || !impl.MeetIn(n, other) {
			t.Errorf("UnionIn(%d, %v) holds, MeetIn of %v does not", n, f, other)
		}
	})
}

func TestPromise84MeetIn(t *testing.T) {
	eachClosedFamily(func(n int, f []int) {
		want := closedByHand(n, f, meetOfTwoByHand)
		if got := impl.MeetIn(n, f); got != want {
			t.Errorf("MeetIn(%d, %v) is %v, want %v", n, f, got, want)
		}
		if !want {
			return
		}
		made, ok := impl.MeetOf(n, f)
		wantList(t, fmt.Sprintf("MeetOf(%d, %v)", n, f), made, ok, f)
		if other, ok := impl.FamilyOther(n, f); !ok || !impl.UnionIn(n, other) {
			t.Errorf("MeetIn(%d, %v) holds, UnionIn of %v does not", n, f, other)
		}
	})
}

func TestPromise85UnionOf(t *testing.T) {
	eachClosedFamily(func(n int, f []int) {
		made, ok := impl.UnionOf(n, f)
		wantList(t, fmt.Sprintf("UnionOf(%d, %v)", n, f), made, ok, unionOfByHand(n, f))
		if !impl.UnionIn(n, made) || !isPart(f, made) {
			t.Errorf("UnionOf(%d, %v) is %v, which is not union closed or lacks a set of the family", n, f, made)
		}
		if joins, ok := impl.FamilyJoins(n, made, f); !ok || !isPart(joins, made) {
			t.Errorf("UnionOf(%d, %v) is %v, FamilyJoins of it and the family %v, %v", n, f, made, joins, ok)
		}
	})
}

func TestPromise86MeetOf(t *testing.T) {
	eachClosedFamily(func(n int, f []int) {
		made, ok := impl.MeetOf(n, f)
		wantList(t, fmt.Sprintf("MeetOf(%d, %v)", n, f), made, ok, meetOfByHand(n, f))
		other, _ := impl.FamilyOther(n, f)
		unions, _ := impl.UnionOf(n, other)
		otherMade, ok := impl.FamilyOther(n, made)
		wantList(t, fmt.Sprintf("FamilyOther(%d, %v)", n, made), otherMade, ok, unions)
	})
}

func TestPromise87UnionPrimes(t *testing.T) {
	eachClosedFamily(func(n int, f []int) {
		primes, ok := impl.UnionPrimes(n, f)
		what := fmt.Sprintf("UnionPrimes(%d, %v)", n, f)
		if !closedByHand(n, f, unionByHand) {
			wantNoList(t, what, primes, ok)
			return
		}
		wantList(t, what, primes, ok, primesByHand(f))
		made, ok := impl.UnionOf(n, primes)
		wantList(t, "UnionOf of "+what, made, ok, without(f, []int{0}))
	})
}

func wantOften(t *testing.T, n int, f []int, wantPoint, wantTimes int) {
	t.Helper()
	point, times, ok := impl.UnionOften(n, f)
	if !ok || point != wantPoint || times != wantTimes {
		t.Errorf("UnionOften(%d, %v) returned %d, %d, %v, want %d, %d, true", n, f, point, times, ok, wantPoint, wantTimes)
	}
}

func wantNotOften(t *testing.T, n int, f []int) {
	t.Helper()
	if point, times, ok := impl.UnionOften(n, f); ok || point != 0 || times != 0 {
		t.Errorf("UnionOften(%d, %v) returned %d, %d, %v, want 0, 0, false", n, f, point, times, ok)
	}
}

func TestPromise88UnionOften(t *testing.T) {
	eachClosedFamily(func(n int, f []int) {
		if len(f) == 0 {
			wantNotOften(t, n, f)
			return
		}
		wantPoint, wantTimes := oftenByHand(n, f)
		wantOften(t, n, f, wantPoint, wantTimes)
		_, times, _ := impl.UnionOften(n, f)
		if degrees, ok := impl.FamilyDegrees(n, f); !ok || times != slices.Max(degrees) {
			t.Errorf("UnionOften(%d, %v) tells %d times, FamilyDegrees is %v, %v", n, f, times, degrees, ok)
		}
		if impl.UnionIn(n, f) && slices.Max(f) > 0 && 2*times < len(f) {
			t.Errorf("UnionOften(%d, %v) tells %d times, less than half of the %d sets", n, f, times, len(f))
		}
	})
}

func checkKernel(t *testing.T, n int, f, meets []int, s int) {
	t.Helper()
	kernel, ok := impl.KernelOf(n, f, s)
	wantNumber(t, fmt.Sprintf("KernelOf(%d, %v, %d)", n, f, s), kernel, ok, kernelByHand(n, f, s))
	if !partByHand(s, kernel) {
		t.Errorf("KernelOf(%d, %v, %d) is %d, of which the set is no part", n, f, s, kernel)
	}
	again, ok := impl.KernelOf(n, f, kernel)
	wantNumber(t, fmt.Sprintf("KernelOf(%d, %v, %d)", n, f, kernel), again, ok, kernel)
	ofMeets, ok := impl.KernelOf(n, meets, s)
	wantNumber(t, fmt.Sprintf("KernelOf(%d, %v, %d)", n, meets, s), ofMeets, ok, kernel)
}

// checkKernels asks for each set whose number has a certain remainder for the step.
func checkKernels(t *testing.T, n int, f []int, step int) {
	t.Helper()
	meets, _ := impl.MeetOf(n, f)
	for s := sum(f) % step; s < power(n); s += step {
		checkKernel(t, n, f, meets, s)
	}
}

// All sets are asked for where there are few, and for some families; otherwise some, others for each family.
func TestPromise89KernelOf(t *testing.T) {
	eachOfManyFamilies(func(n int, f []int) { checkKernels(t, n, f, max(1, power(n)/8)) })
	eachFamilyOfFourPoints(func(f []int) { checkKernels(t, 4, f, 5) })
	for n := 1; n <= impl.PointsMax; n++ {
		for _, f := range families(n) {
			checkKernels(t, n, f, 1)
		}
		for _, f := range closedFamilies(n) {
			checkKernels(t, n, f, max(1, power(n)/32))
		}
	}
}

func checkKernelSame(t *testing.T, n int, f, g []int, want bool) {
	t.Helper()
	if got := impl.KernelSame(n, f, g); got != want {
		t.Errorf("KernelSame(%d, %v, %v) is %v, want %v", n, f, g, got, want)
	}
	if got := impl.KernelSame(n, g, f); got != want {
		t.Errorf("KernelSame(%d, %v, %v) is %v, want %v", n, g, f, got, want)
	}
	if !want {
		return
	}
	all := []int{power(n) - 1}
	allF, _ := impl.FamilyUnion(n, f, all)
	allG, _ := impl.FamilyUnion(n, g, all)
	meetF, _ := impl.MeetOf(n, allF)
	meetG, ok := impl.MeetOf(n, allG)
	wantList(t, fmt.Sprintf("MeetOf(%d, %v)", n, allG), meetG, ok, meetF)
}

// kernelPartners has families that give the same kernels as a family, and some that are near to that.
func kernelPartners(n int, f []int) [][]int {
	all := []int{power(n) - 1}
	meets := meetOfByHand(n, f)
	one := []int{int(mixed(len(f), n)) % power(n)}
	out := [][]int{f, sortedUnion(f, all), without(f, all), meets, without(meets, all), sortedUnion(f, one), without(meets, one)}
	for i := 0; i < len(f); i += 1 + len(f)/6 {
		out = append(out, without(f, f[i:i+1]), without(meets, f[i:i+1]))
	}
	return out
}

func TestPromise90KernelSame(t *testing.T) {
	check := func(n int, f []int) {
		kernels := kernelsByHand(n, f)
		for _, g := range kernelPartners(n, f) {
			checkKernelSame(t, n, f, g, slices.Equal(kernels, kernelsByHand(n, g)))
		}
	}
	for n := 1; n <= impl.PointsMax; n++ {
		for _, f := range slices.Concat(families(n), closedFamilies(n), scatteredFamilies(n, 4)) {
			check(n, f)
		}
	}
	eachFamilyOfFourPoints(func(f []int) {
		// All of them would take long.
		if sum(f)%7 == 0 {
			check(4, f)
		}
	})
}

func TestPromise90KernelSameOfAllTwoFamilies(t *testing.T) {
	for n := 1; n <= impl.PointsMax; n++ {
		asked := families(n)
		var kernels [][]int
		for _, f := range asked {
			kernels = append(kernels, kernelsByHand(n, f))
		}
		for i, f := range asked {
			for j, g := range asked[:i+1] {
				checkKernelSame(t, n, f, g, slices.Equal(kernels[i], kernels[j]))
			}
		}
	}
}

func TestPromise91UpIn(t *testing.T) {
	check := func(n int, f []int) {
		want := isUpByHand(n, f)
		if got := impl.UpIn(n, f); got != want {
			t.Errorf("UpIn(%d, %v) is %v, want %v", n, f, got, want)
		}
		if !want {
			return
		}
		closed, ok := impl.ClosedUp(n, f)
		wantList(t, fmt.Sprintf("ClosedUp(%d, %v)", n, f), closed, ok, f)
		rest, ok := impl.FamilyRest(n, f)
		if !ok || !impl.DownIn(n, rest) || !impl.UnionIn(n, f) {
			t.Errorf("UpIn(%d, %v) holds, but not UnionIn of it, or not DownIn of %v", n, f, rest)
		}
	}
	eachClosedFamily(check)
	eachDownFamily(func(n int, f []int) { check(n, otherByHand(n, f)) })
}

func TestPromise92DownIn(t *testing.T) {
	check := func(n int, f []int) {
		want := isDownByHand(n, f)
		if got := impl.DownIn(n, f); got != want {
			t.Errorf("DownIn(%d, %v) is %v, want %v", n, f, got, want)
		}
		if !want {
			return
		}
		closed, ok := impl.ClosedDown(n, f)
		wantList(t, fmt.Sprintf("ClosedDown(%d, %v)", n, f), closed, ok, f)
		if !impl.MeetIn(n, f) || !impl.PressedIn(n, f) {
			t.Errorf("DownIn(%d, %v) holds, but not MeetIn, or not PressedIn", n, f)
		}
		all, ok := impl.TraceAll(n, f)
		wantList(t, fmt.Sprintf("TraceAll(%d, %v)", n, f), all, ok, f)
	}
	eachClosedFamily(check)
	eachDownFamily(check)
}

func checkUpCommon(t *testing.T, n int, f, g []int) int {
	t.Helper()
	number, ok := impl.UpCommon(n, f, g)
	wantNumber(t, fmt.Sprintf("UpCommon(%d, %v, %v)", n, f, g), number, ok, upCommonByHand(n, f, g))
	return number
}

// checkUpAndDown expects two down families.
func checkUpAndDown(t *testing.T, n int, f, g []int) {
	t.Helper()
	up, upToo := otherByHand(n, f), otherByHand(n, g)
	if !impl.DownIn(n, f) || !impl.DownIn(n, g) || !impl.UpIn(n, up) || !impl.UpIn(n, upToo) {
		t.Errorf("for %d points, %v and %v are no down families, or their others no up families", n, f, g)
	}
	if checkUpCommon(t, n, f, g) < 0 || checkUpCommon(t, n, up, upToo) < 0 {
		t.Errorf("UpCommon for %d points is negative for %v and %v, or for their others", n, f, g)
	}
	if checkUpCommon(t, n, up, g) > 0 || checkUpCommon(t, n, g, up) > 0 {
		t.Errorf("UpCommon for %d points is positive for %v and %v", n, up, g)
	}
}

func TestPromise93UpCommon(t *testing.T) {
	eachTwoFamilies(func(n int, f, g []int) {
		number := checkUpCommon(t, n, f, g)
		upF, upG, downF, downG := isUpByHand(n, f), isUpByHand(n, g), isDownByHand(n, f), isDownByHand(n, g)
		if number < 0 && (upF && upG || downF && downG) || number > 0 && (upF && downG || downF && upG) {
			t.Errorf("UpCommon(%d, %v, %v) is %d", n, f, g, number)
		}
	})
	for n := 1; n <= 4; n++ {
		for _, f := range downFamilies(n) {
			for _, g := range downFamilies(n) {
				checkUpAndDown(t, n, f, g)
			}
		}
	}
	five := downFamilies(5)
	for i, f := range five {
		checkUpAndDown(t, 5, f, five[i*i%len(five)])
	}
	for n := 6; n <= impl.PointsMax; n++ {
		for seed := range 60 {
			f := closedDownByHand(n, fewOf(allByHand(n), seed%9, seed))
			g := closedDownByHand(n, fewOf(allByHand(n), seed%7, seed+1))
			checkUpAndDown(t, n, f, g)
		}
	}
}

func TestPromise94DifferenceOf(t *testing.T) {
	eachClosedFamily(func(n int, f []int) {
		made, ok := impl.DifferenceOf(n, f)
		wantList(t, fmt.Sprintf("DifferenceOf(%d, %v)", n, f), made, ok, differenceByHand(n, f))
		if len(made) < len(f) || len(f) > 0 && made[0] != 0 {
			t.Errorf("DifferenceOf(%d, %v) is %v, fewer sets or without the empty one", n, f, made)
		}
		other, _ := impl.FamilyOther(n, f)
		ofOther, ok := impl.DifferenceOf(n, other)
		wantList(t, fmt.Sprintf("DifferenceOf(%d, %v)", n, other), ofOther, ok, made)
	})
}

type closedCase struct {
	what            string
	n               int
	f               []int
	unionOf, meetOf []int
	// The prime sets, if the family is union closed.
	primes       []int
	point, times int
	up, down     bool
	differences  []int
}

func checkClosedCase(t *testing.T, x closedCase) {
	t.Helper()
	what := fmt.Sprintf("%s: for %d points and %v, ", x.what, x.n, x.f)
	made, ok := impl.UnionOf(x.n, x.f)
	wantList(t, what+"UnionOf", made, ok, x.unionOf)
	made, ok = impl.MeetOf(x.n, x.f)
	wantList(t, what+"MeetOf", made, ok, x.meetOf)
	made, ok = impl.DifferenceOf(x.n, x.f)
	wantList(t, what+"DifferenceOf", made, ok, x.differences)
	for _, y := range []struct {
		name string
		call func(n int, f []int) bool
		want bool
	}{
		{"UnionIn", impl.UnionIn, slices.Equal(x.f, x.unionOf)},
		{"MeetIn", impl.MeetIn, slices.Equal(x.f, x.meetOf)},
		{"UpIn", impl.UpIn, x.up},
		{"DownIn", impl.DownIn, x.down},
	} {
		if got := y.call(x.n, x.f); got != y.want {
			t.Errorf("%s%s is %v", what, y.name, got)
		}
	}
	primes, ok := impl.UnionPrimes(x.n, x.f)
	if slices.Equal(x.f, x.unionOf) {
		wantList(t, what+"UnionPrimes", primes, ok, x.primes)
	} else {
		wantNoList(t, what+"UnionPrimes", primes, ok)
	}
	if len(x.f) == 0 {
		wantNotOften(t, x.n, x.f)
		return
	}
	wantOften(t, x.n, x.f, x.point, x.times)
}

// The results are worked out by hand.
func TestClosedExamples(t *testing.T) {
	all := []int{0, 1, 2, 3, 4, 5, 6, 7}
	for _, x := range []closedCase{
		{"two points", 3, []int{1, 2}, []int{1, 2, 3}, []int{0, 1, 2}, nil, 0, 1, false, false, []int{0, 1, 2}},
		{"two points and both", 3, []int{1, 2, 3}, []int{1, 2, 3}, []int{0, 1, 2, 3}, []int{1, 2}, 0, 2, false, false, []int{0, 1, 2}},
		{"all parts of a set", 3, []int{0, 1, 2, 3}, []int{0, 1, 2, 3}, []int{0, 1, 2, 3}, []int{1, 2}, 0, 2, false, true, []int{0, 1, 2, 3}},
		{"all sets above a set", 3, []int{1, 3, 5, 7}, []int{1, 3, 5, 7}, []int{1, 3, 5, 7}, []int{1, 3, 5}, 0, 4, true, false, []int{0, 2, 4, 6}},
		{"a common point", 3, []int{3, 5}, []int{3, 5, 7}, []int{1, 3, 5}, nil, 0, 2, false, false, []int{0, 2, 4}},
		{"a common point that is not the least", 3, []int{3, 6}, []int{3, 6, 7}, []int{2, 3, 6}, nil, 1, 2, false, false, []int{0, 1, 4}},
		{"all sets of at least two points", 3, []int{3, 5, 6, 7}, []int{3, 5, 6, 7}, all, []int{3, 5, 6}, 0, 3, true, false, []int{0, 1, 2, 4}},
		{"all sets of two points", 3, []int{3, 5, 6}, []int{3, 5, 6, 7}, []int{0, 1, 2, 3, 4, 5, 6}, nil, 0, 2, false, false, []int{0, 1, 2, 4}},
		{"all sets of at most one point", 3, []int{0, 1, 2, 4}, all, []int{0, 1, 2, 4}, nil, 0, 1, false, true, []int{0, 1, 2, 4}},
		{"one point more from set to set", 3, []int{0, 1, 3, 7}, []int{0, 1, 3, 7}, []int{0, 1, 3, 7}, []int{1, 3, 7}, 0, 3, false, false, []int{0, 1, 2, 3, 4, 6, 7}},
		{"from the last point on", 3, []int{0, 4, 6}, []int{0, 4, 6}, []int{0, 4, 6}, []int{4, 6}, 2, 2, false, false, []int{0, 2, 4, 6}},
		{"ringed", 3, []int{0, 3, 4, 7}, []int{0, 3, 4, 7}, []int{0, 3, 4, 7}, []int{3, 4}, 0, 2, false, false, []int{0, 3, 4, 7}},
		{"a set of the middle is missing", 3, []int{1, 2, 7}, []int{1, 2, 3, 7}, []int{0, 1, 2, 7}, nil, 0, 2, false, false, []int{0, 1, 2, 5, 6}},
		{"a prime set has two parts", 3, []int{1, 2, 3, 7}, []int{1, 2, 3, 7}, []int{0, 1, 2, 3, 7}, []int{1, 2, 7}, 0, 3, false, false, []int{0, 1, 2, 4, 5, 6}},
		{"both sets of one point", 1, []int{0, 1}, []int{0, 1}, []int{0, 1}, []int{1}, 0, 1, true, true, []int{0, 1}},
		{"two far points", 8, []int{64, 128}, []int{64, 128, 192}, []int{0, 64, 128}, nil, 6, 1, false, false, []int{0, 64, 128}},
	} {
		checkClosedCase(t, x)
	}
}

// Such a family is asked for all that the chapter tells of a family, given as nil and as an empty list.
func TestClosedFamiliesWithoutSets(t *testing.T) {
	for n := 1; n <= impl.PointsMax; n++ {
		all, empty := power(n)-1, []int{}
		for _, f := range [][]int{nil, empty} {
			checkClosedCase(t, closedCase{what: "no set", n: n, f: f, up: true, down: true})
			for s := range power(n) {
				kernel, ok := impl.KernelOf(n, f, s)
				wantNumber(t, fmt.Sprintf("KernelOf(%d, %v, %d)", n, f, s), kernel, ok, all)
				// Only the set of all points has the same kernels for itself.
				checkKernelSame(t, n, f, []int{s}, s == all)
			}
			for _, g := range append(families(n), nil, empty) {
				checkKernelSame(t, n, f, g, len(without(g, []int{all})) == 0)
				for _, pair := range [][2][]int{{f, g}, {g, f}} {
					number, ok := impl.UpCommon(n, pair[0], pair[1])
					wantNumber(t, fmt.Sprintf("UpCommon(%d, %v, %v)", n, pair[0], pair[1]), number, ok, 0)
				}
			}
		}
	}
}

func TestClosedFamiliesOfOneSet(t *testing.T) {
	eachSet(func(n, s int) {
		x := closedCase{what: "one set", n: n, f: []int{s}, unionOf: []int{s}, meetOf: []int{s}, differences: []int{0}}
		if s > 0 {
			x.primes, x.point, x.times = []int{s}, pointsByHand(n, s)[0], 1
		}
		x.up, x.down = s == power(n)-1, s == 0
		checkClosedCase(t, x)
		for part := range power(n) {
			want := power(n) - 1
			if partByHand(part, s) {
				want = s
			}
			kernel, ok := impl.KernelOf(n, x.f, part)
			wantNumber(t, fmt.Sprintf("KernelOf(%d, %v, %d)", n, x.f, part), kernel, ok, want)
		}
	})
}

// The sets of one point make all others by unions but the empty one, and those that lack one point make all others
// by common parts but that of all points.
func TestClosedFamiliesOfAllSets(t *testing.T) {
	for n := 1; n <= impl.PointsMax; n++ {
		all := allByHand(n)
		checkClosedCase(t, closedCase{"all sets", n, all, all, all, levelByHand(n, 1), 0, power(n - 1), true, true, all})
		for s := range power(n) {
			kernel, ok := impl.KernelOf(n, all, s)
			wantNumber(t, fmt.Sprintf("KernelOf(%d, %v, %d)", n, all, s), kernel, ok, s)
		}
		for _, f := range families(n) {
			number, ok := impl.UpCommon(n, all, f)
			wantNumber(t, fmt.Sprintf("UpCommon(%d, %v, %v)", n, all, f), number, ok, 0)
		}
		for _, f := range [][]int{levelByHand(n, 1), sortedUnion([]int{0}, levelByHand(n, 1))} {
			made, ok := impl.UnionOf(n, f)
			wantList(t, fmt.Sprintf("UnionOf(%d, %v)", n, f), made, ok, without(all, without([]int{0}, f)))
		}
		for _, f := range [][]int{levelByHand(n, n-1), sortedUnion([]int{power(n) - 1}, levelByHand(n, n-1))} {
			made, ok := impl.MeetOf(n, f)
			wantList(t, fmt.Sprintf("MeetOf(%d, %v)", n, f), made, ok, without(all, without([]int{power(n) - 1}, f)))
		}
	}
}

// A set of the family is missing: it is union closed still if the set is the empty one or one of a point.
func TestClosedFamiliesOfAllSetsButOne(t *testing.T) {
	eachSet(func(n, s int) {
		f := without(allByHand(n), []int{s})
		size := len(pointsByHand(n, s))
		if got := impl.UnionIn(n, f); got != (size <= 1) {
			t.Errorf("UnionIn(%d, %v) is %v", n, f, got)
		}
		if got := impl.MeetIn(n, f); got != (size >= n-1) {
			t.Errorf("MeetIn(%d, %v) is %v", n, f, got)
		}
		if got := impl.UpIn(n, f); got != (size == 0) {
			t.Errorf("UpIn(%d, %v) is %v", n, f, got)
		}
		if got := impl.DownIn(n, f); got != (size == n) {
			t.Errorf("DownIn(%d, %v) is %v", n, f, got)
		}
		want := s
		if size == n-1 {
			want = power(n) - 1
		}
		kernel, ok := impl.KernelOf(n, f, s)
		wantNumber(t, fmt.Sprintf("KernelOf(%d, %v, %d)", n, f, s), kernel, ok, want)
		checkKernelSame(t, n, f, allByHand(n), size != n-1)
	})
}

// With the empty set or without it, a family has the same prime sets.
func TestTheEmptySetIsNeverPrime(t *testing.T) {
	eachClosedFamily(func(n int, f []int) {
		if !closedByHand(n, f, unionByHand) {
			return
		}
		primes, ok := impl.UnionPrimes(n, without(f, []int{0}))
		with := sortedUnion([]int{0}, f)
		withPrimes, also := impl.UnionPrimes(n, with)
		wantList(t, fmt.Sprintf("UnionPrimes(%d, %v)", n, with), withPrimes, ok && also, primes)
		if slices.Contains(withPrimes, 0) {
			t.Errorf("UnionPrimes(%d, %v) is %v", n, with, withPrimes)
		}
	})
}

// Two sets of one point do not make a set of three, but three do.
func TestUnionsAndCommonPartsOfManySets(t *testing.T) {
	for n := 1; n <= impl.PointsMax; n++ {
		for k := 1; k <= n; k++ {
			f := levelByHand(n, k)
			made, ok := impl.UnionOf(n, f)
			wantList(t, fmt.Sprintf("UnionOf(%d, %v)", n, f), made, ok, closedUpByHand(n, f))
			made, ok = impl.MeetOf(n, otherByHand(n, f))
			wantList(t, fmt.Sprintf("MeetOf(%d, %v)", n, otherByHand(n, f)), made, ok, closedDownByHand(n, otherByHand(n, f)))
			up := closedUpByHand(n, f)
			primes, ok := impl.UnionPrimes(n, up)
			wantList(t, fmt.Sprintf("UnionPrimes(%d, %v)", n, up), primes, ok, f)
		}
	}
}

// All points of a set stand in as many sets, and the least one of them is told.
func TestUnionOftenOfPointsThatStandAsOften(t *testing.T) {
	for n := 1; n <= impl.PointsMax; n++ {
		for k := 1; k <= n; k++ {
			level := levelByHand(n, k)
			wantOften(t, n, level, 0, triangle(n)[n-1][k-1])
		}
		for p := range n {
			// The points from p on, each in a set of its own; then also a set of all of them, or of all but p.
			var f []int
			for q := p; q < n; q++ {
				f = append(f, power(q))
			}
			wantOften(t, n, f, p, 1)
			wantOften(t, n, sortedUnion(f, []int{0}), p, 1)
			if p < n-2 {
				wantOften(t, n, sortedUnion(f, []int{power(n) - power(p)}), p, 2)
				wantOften(t, n, sortedUnion(f, []int{power(n) - power(p+1)}), p+1, 2)
			}
		}
	}
}

func TestKernelExamples(t *testing.T) {
	for _, x := range []struct {
		n    int
		f    []int
		want []int
	}{
		{3, []int{3, 5}, []int{1, 1, 3, 3, 5, 5, 7, 7}},
		{3, []int{3, 6}, []int{2, 3, 2, 3, 6, 7, 6, 7}},
		{3, []int{3, 5, 6}, []int{0, 1, 2, 3, 4, 5, 6, 7}},
		{3, []int{0, 7}, []int{0, 7, 7, 7, 7, 7, 7, 7}},
		{3, []int{0, 3, 4}, []int{0, 3, 3, 3, 4, 7, 7, 7}},
		{3, []int{1, 3}, []int{1, 1, 3, 3, 7, 7, 7, 7}},
		{3, []int{2}, []int{2, 7, 2, 7, 7, 7, 7, 7}},
		{2, []int{3}, []int{3, 3, 3, 3}},
		{2, []int{0}, []int{0, 3, 3, 3}},
		{1, []int{0}, []int{0, 1}},
		{1, []int{1}, []int{1, 1}},
	} {
		for s, want := range x.want {
			kernel, ok := impl.KernelOf(x.n, x.f, s)
			wantNumber(t, fmt.Sprintf("KernelOf(%d, %v, %d)", x.n, x.f, s), kernel, ok, want)
		}
	}
}

// A set of the family is its own kernel, and the kernel of a set with none above it has all points.
func TestKernelsOfSetsOfTheFamilyAndOfSetsWithNoneAbove(t *testing.T) {
	eachFewClosedFamily(func(n int, f []int) {
		below := members(closedDownByHand(n, f))
		for i := 0; i < len(f); i += 1 + len(f)/4 {
			kernel, ok := impl.KernelOf(n, f, f[i])
			wantNumber(t, fmt.Sprintf("KernelOf(%d, %v, %d)", n, f, f[i]), kernel, ok, f[i])
		}
		for s := sum(f) % 3; s < power(n); s += 1 + power(n)/4 {
			if below[s] {
				continue
			}
			kernel, ok := impl.KernelOf(n, f, s)
			wantNumber(t, fmt.Sprintf("KernelOf(%d, %v, %d)", n, f, s), kernel, ok, power(n)-1)
		}
	})
}

// With the set of all points or without it, a family gives the same kernels. Without another one it gives the same
// only if that is the common part of others.
func TestKernelSameWithoutOneSet(t *testing.T) {
	for n := 1; n <= impl.PointsMax; n++ {
		all := power(n) - 1
		for _, f := range append(families(n), closedFamilies(n)...) {
			checkKernelSame(t, n, without(f, []int{all}), sortedUnion(f, []int{all}), true)
			for i := 0; i < len(f); i += 1 + len(f)/16 {
				rest := without(f, f[i:i+1])
				made := f[i] == all || slices.Contains(meetOfByHand(n, rest), f[i])
				checkKernelSame(t, n, f, rest, made)
			}
		}
	}
	checkKernelSame(t, 3, []int{3, 5}, []int{1, 3, 5, 7}, true)
	checkKernelSame(t, 3, []int{3, 5, 6}, []int{0, 3, 5, 6, 7}, true)
	checkKernelSame(t, 3, []int{3, 5}, []int{1, 3}, false)
	checkKernelSame(t, 3, []int{3, 5}, []int{3, 6}, false)
}

// The results are worked out by hand.
func TestUpCommonExamples(t *testing.T) {
	below := where(8, func(s int) bool { return s < 128 })
	above := where(8, func(s int) bool { return s >= 128 })
	for _, x := range []struct {
		what string
		n    int
		f, g []int
		want int
	}{
		{"two up families", 3, []int{3, 5, 6, 7}, []int{1, 3, 5, 7}, 8},
		{"two down families", 3, []int{0, 1, 2, 4}, []int{0, 2, 4, 6}, 8},
		{"an up and a down family", 3, []int{7}, []int{0}, -1},
		{"an up and a down family with common sets", 3, []int{3, 5, 6, 7}, []int{0, 1, 2, 3}, -8},
		{"as many as one would guess", 3, []int{1, 3, 5, 7}, []int{2, 3, 6, 7}, 0},
		{"neither up nor down, all common", 3, []int{1, 2}, []int{1, 2}, 12},
		{"neither up nor down, none common", 3, []int{1, 2}, []int{4}, -2},
		{"one point, no common set", 1, []int{0}, []int{1}, -1},
		{"one point, one set", 1, []int{1}, []int{1}, 1},
		{"half of all sets with itself", 8, below, below, 16384},
		{"half of all sets with the rest", 8, below, above, -16384},
		{"one set of eight points", 8, []int{255}, []int{255}, 255},
	} {
		for _, pair := range [][2][]int{{x.f, x.g}, {x.g, x.f}} {
			number, ok := impl.UpCommon(x.n, pair[0], pair[1])
			wantNumber(t, fmt.Sprintf("%s: UpCommon(%d, %v, %v)", x.what, x.n, pair[0], pair[1]), number, ok, x.want)
		}
	}
}

// closedCalls has each function that makes a family of a family.
func closedCalls() []familyCall {
	return []familyCall{
		{"UnionOf", impl.UnionOf},
		{"MeetOf", impl.MeetOf},
		{"UnionPrimes", impl.UnionPrimes},
		{"DifferenceOf", impl.DifferenceOf},
	}
}

type holdsCall struct {
	name string
	call func(n int, f []int) bool
}

// closedTests has each function that tells whether a family is of a kind.
func closedTests() []holdsCall {
	return []holdsCall{
		{"UnionIn", impl.UnionIn},
		{"MeetIn", impl.MeetIn},
		{"UpIn", impl.UpIn},
		{"DownIn", impl.DownIn},
	}
}

func TestClosedCallsOthers(t *testing.T) {
	for _, x := range badFamilies() {
		what := fmt.Sprintf(", for %d points and %v,", x.n, x.list)
		for _, c := range closedCalls() {
			got, ok := c.call(x.n, x.list)
			wantNoList(t, c.name+what, got, ok)
		}
		for _, c := range closedTests() {
			if c.call(x.n, x.list) {
				t.Errorf("%s%s holds", c.name, what)
			}
		}
		wantNotOften(t, x.n, x.list)
		for _, s := range []int{-1, 0, 1, power(max(1, min(x.n, impl.PointsMax))) - 1} {
			kernel, ok := impl.KernelOf(x.n, x.list, s)
			wantNoNumber(t, fmt.Sprintf("KernelOf of %d%s", s, what), kernel, ok)
		}
		for _, g := range [][]int{nil, {}, {0}, {1}, {0, 1}, x.list} {
			for _, pair := range [][2][]int{{x.list, g}, {g, x.list}} {
				if impl.KernelSame(x.n, pair[0], pair[1]) {
					t.Errorf("KernelSame(%d, %v, %v) holds", x.n, pair[0], pair[1])
				}
				number, ok := impl.UpCommon(x.n, pair[0], pair[1])
				wantNoNumber(t, fmt.Sprintf("UpCommon(%d, %v, %v)", x.n, pair[0], pair[1]), number, ok)
			}
		}
	}
}

func TestKernelsOfNoSet(t *testing.T) {
	for _, x := range badSets() {
		n := max(1, min(x.n, impl.PointsMax))
		for _, f := range [][]int{nil, {}, {0}, {0, 1}, {1, 0}, allByHand(n)} {
			kernel, ok := impl.KernelOf(x.n, f, x.s)
			wantNoNumber(t, fmt.Sprintf("KernelOf(%d, %v, %d)", x.n, f, x.s), kernel, ok)
		}
	}
}

func TestUnionPrimesOfFamiliesThatAreNotUnionClosed(t *testing.T) {
	for n := 2; n <= impl.PointsMax; n++ {
		all := power(n) - 1
		for _, f := range [][]int{{1, 2}, {0, 1, 2}, {0, 1, all - 1}, {1, all - 1}, levelByHand(n, n-1), levelByHand(n, 1), without(allByHand(n), []int{all})} {
			primes, ok := impl.UnionPrimes(n, f)
			wantNoList(t, fmt.Sprintf("UnionPrimes(%d, %v)", n, f), primes, ok)
		}
	}
}

func TestClosedFamiliesAreNewMemory(t *testing.T) {
	check := func(n int, f []int) {
		for _, c := range closedCalls() {
			if _, ok := c.call(n, f); ok {
				checkNewMemory(t, c, n, f)
			}
		}
	}
	eachFamily(check)
	for n := 1; n <= impl.PointsMax; n++ {
		for _, f := range closedFamilies(n) {
			check(n, f)
		}
	}
}

func TestClosedCallsLeaveTheirArguments(t *testing.T) {
	eachFewClosedFamily(func(n int, f []int) {
		given := append(slices.Clone(f), 0, 1, 0, 1)
		before := slices.Clone(given)
		f = given[:len(f)]
		for _, c := range closedTests() {
			c.call(n, f)
		}
		impl.UnionOften(n, f)
		impl.KernelOf(n, f, power(n)-1)
		impl.KernelSame(n, f, f)
		impl.UpCommon(n, f, f)
		if !slices.Equal(given, before) {
			t.Errorf("the list %v of %d points was changed to %v", before, n, given)
		}
	})
}

// closedAnswers tells what each function of the chapter makes of a family, and of the numbers that its length names.
func closedAnswers(n int, f []int) []string {
	var out []string
	for _, c := range closedCalls() {
		list, ok := c.call(n, f)
		out = append(out, fmt.Sprint(c.name, list, ok))
	}
	for _, c := range closedTests() {
		out = append(out, fmt.Sprint(c.name, c.call(n, f)))
	}
	m := len(f)
	for _, s := range []int{0, m, 2 * m, m / 2} {
		kernel, ok := impl.KernelOf(n, f, s)
		out = append(out, fmt.Sprint(kernel, ok))
	}
	point, times, often := impl.UnionOften(n, f)
	number, ok := impl.UpCommon(n, f, f[m/3:])
	return append(out, fmt.Sprint(point, times, often, number, ok, impl.KernelSame(n, f, f[m/3:]), impl.KernelSame(n, f[:m/2], f)))
}

func TestClosedFamiliesKeepNoState(t *testing.T) {
	checkNoState(t, closedAnswers)
}
