package tests

import (
	"fmt"
	"math"
	"slices"
	"testing"

	"loop.example/setshadows/impl"
)

// shadowByHand has the sets that become one of a family when a point is put in.
func shadowByHand(n int, f []int) []int {
	in := members(f)
	return where(n, func(s int) bool {
		for p := range n {
			if s/power(p)%2 == 0 && in[s+power(p)] {
				return true
			}
		}
		return false
	})
}

// upperByHand has the sets that become one of a family when a point is taken out.
func upperByHand(n int, f []int) []int {
	in := members(f)
	return where(n, func(s int) bool {
		for p := range n {
			if s/power(p)%2 == 1 && in[s-power(p)] {
				return true
			}
		}
		return false
	})
}

// isPart tells whether each set of one list is in another one.
func isPart(f, g []int) bool {
	in := members(g)
	return !slices.ContainsFunc(f, func(s int) bool { return !in[s] })
}

// evenFamilies has all families of sets of one size for up to five points, and some for more.
func evenFamilies(n, k int) [][]int {
	level := levelByHand(n, k)
	var out [][]int
	if n <= 5 {
		for code := range power(len(level)) {
			out = append(out, pick(level, func(i int) bool { return code/power(i)%2 == 1 }))
		}
		return out
	}
	for m := range len(level) + 1 {
		out = append(out,
			level[:m],
			level[len(level)-m:],
			pick(level, func(i int) bool { return i*m%7 < 3 }),
			pick(level, func(i int) bool { return i*i%(m+1) < 2 }))
	}
	return out
}

// pick lists the items whose index passes a test.
func pick(list []int, test func(i int) bool) []int {
	var out []int
	for i, x := range list {
		if test(i) {
			out = append(out, x)
		}
	}
	return out
}

func eachEvenFamily(check func(n, k int, f []int)) {
	for n := 1; n <= impl.PointsMax; n++ {
		for k := 0; k <= n; k++ {
			for _, f := range evenFamilies(n, k) {
				check(n, k, f)
			}
		}
	}
}

func checkShadow(t *testing.T, n int, f []int) {
	t.Helper()
	shadow, ok := impl.ShadowOf(n, f)
	wantList(t, fmt.Sprintf("ShadowOf(%d, %v)", n, f), shadow, ok, shadowByHand(n, f))
}

func TestPromise28ShadowOf(t *testing.T) {
	eachFamily(func(n int, f []int) { checkShadow(t, n, f) })
	eachEvenFamily(func(n, k int, f []int) {
		checkShadow(t, n, f)
		if k == 0 || !impl.ShadowEven(n, f) {
			return
		}
		shadow, _ := impl.ShadowOf(n, f)
		if least, ok := impl.ShadowLeast(len(f), k); !ok || len(shadow) < least {
			t.Errorf("ShadowOf(%d, %v) has %d sets, ShadowLeast(%d, %d) is %d, %v", n, f, len(shadow), len(f), k, least, ok)
		}
	})
}

func TestShadowsOfAllFamiliesOfFourPoints(t *testing.T) {
	eachFamilyOfFourPoints(func(f []int) {
		checkShadow(t, 4, f)
		up, ok := impl.ShadowUp(4, f)
		wantList(t, fmt.Sprintf("ShadowUp(4, %v)", f), up, ok, upperByHand(4, f))
	})
}

func TestPromise29ShadowUp(t *testing.T) {
	check := func(n int, f []int) {
		up, ok := impl.ShadowUp(n, f)
		wantList(t, fmt.Sprintf("ShadowUp(%d, %v)", n, f), up, ok, upperByHand(n, f))
		other, _ := impl.FamilyOther(n, f)
		shadow, _ := impl.ShadowOf(n, other)
		back, ok := impl.FamilyOther(n, shadow)
		wantList(t, fmt.Sprintf("FamilyOther(%d, %v)", n, shadow), back, ok, up)
	}
	eachFamily(check)
	eachEvenFamily(func(n, k int, f []int) { check(n, f) })
}

func TestShadowEdges(t *testing.T) {
	for n := 1; n <= impl.PointsMax; n++ {
		full := power(n) - 1
		var ones, allButOnes []int
		for p := range n {
			ones = append(ones, power(p))
			allButOnes = append(allButOnes, full-power(n-1-p))
		}
		all := where(n, func(s int) bool { return true })
		for _, x := range []struct{ f, shadow, up []int }{
			{nil, nil, nil},
			{[]int{}, nil, nil},
			{[]int{0}, nil, ones},
			{[]int{full}, allButOnes, nil},
			{ones, []int{0}, upperByHand(n, ones)},
			{allButOnes, shadowByHand(n, allButOnes), []int{full}},
			{all, all[:full], all[1:]},
		} {
			shadow, ok := impl.ShadowOf(n, x.f)
			wantList(t, fmt.Sprintf("ShadowOf(%d, %v)", n, x.f), shadow, ok, x.shadow)
			up, ok := impl.ShadowUp(n, x.f)
			wantList(t, fmt.Sprintf("ShadowUp(%d, %v)", n, x.f), up, ok, x.up)
		}
	}
}

func TestPromise30ShadowFirst(t *testing.T) {
	for n := 1; n <= impl.PointsMax; n++ {
		for k := 0; k <= n; k++ {
			level := levelByHand(n, k)
			for m := range len(level) + 1 {
				first, ok := impl.ShadowFirst(n, k, m)
				wantList(t, fmt.Sprintf("ShadowFirst(%d, %d, %d)", n, k, m), first, ok, level[:m])
				if k > 0 {
					checkFirstShadow(t, n, k, first)
				}
			}
		}
	}
}

// checkFirstShadow expects a first family of sets of a size of at least 1.
func checkFirstShadow(t *testing.T, n, k int, first []int) {
	t.Helper()
	shadow, _ := impl.ShadowOf(n, first)
	least, ok := impl.ShadowLeast(len(first), k)
	wantNumber(t, fmt.Sprintf("ShadowLeast(%d, %d)", len(first), k), least, ok, len(shadow))
	again, ok := impl.ShadowFirst(n, k-1, len(shadow))
	wantList(t, fmt.Sprintf("ShadowFirst(%d, %d, %d)", n, k-1, len(shadow)), again, ok, shadow)
}

func TestShadowFirstOfSizesWithOneSet(t *testing.T) {
	for n := 1; n <= impl.PointsMax; n++ {
		for k, s := range map[int]int{0: 0, n: power(n) - 1} {
			none, ok := impl.ShadowFirst(n, k, 0)
			wantList(t, fmt.Sprintf("ShadowFirst(%d, %d, 0)", n, k), none, ok, nil)
			one, ok := impl.ShadowFirst(n, k, 1)
			wantList(t, fmt.Sprintf("ShadowFirst(%d, %d, 1)", n, k), one, ok, []int{s})
			two, ok := impl.ShadowFirst(n, k, 2)
			wantNoList(t, fmt.Sprintf("ShadowFirst(%d, %d, 2)", n, k), two, ok)
		}
	}
}

func wantNoFirst(t *testing.T, n, k, m int) {
	t.Helper()
	first, ok := impl.ShadowFirst(n, k, m)
	wantNoList(t, fmt.Sprintf("ShadowFirst(%d, %d, %d)", n, k, m), first, ok)
}

func TestShadowFirstOthers(t *testing.T) {
	for _, n := range badCounts {
		for _, k := range []int{-1, 0, 1, n} {
			for _, m := range []int{-1, 0, 1} {
				wantNoFirst(t, n, k, m)
			}
		}
	}
	for n := 1; n <= impl.PointsMax; n++ {
		for _, k := range []int{math.MinInt, -1, n + 1, n + 2, 64, math.MaxInt} {
			for _, m := range []int{-1, 0, 1} {
				wantNoFirst(t, n, k, m)
			}
		}
		for k := 0; k <= n; k++ {
			all := len(levelByHand(n, k))
			for _, m := range []int{math.MinInt, -all, -1, all + 1, all + 2, 256, 1 << 32, 1<<32 + 1, math.MaxInt} {
				wantNoFirst(t, n, k, m)
			}
		}
	}
}

// leastOfAll takes, for each number of sets of size k, the least shadow that any family of so many has.
func leastOfAll(n, k int) []int {
	level, below := levelByHand(n, k), levelByHand(n, k-1)
	least := slices.Repeat([]int{math.MaxInt}, len(level)+1)
	// A code has a bit for each set of a level. A family's shadow is that of its last set and that of the others.
	shadows, counts := make([]uint32, 1<<len(level)), make([]int, 1<<len(level))
	for code := range shadows {
		for i, s := range level {
			if code>>i != 1 {
				continue
			}
			rest := code - 1<<i
			shadows[code], counts[code] = shadows[rest], counts[rest]+1
			for _, p := range pointsByHand(n, s) {
				shadows[code] |= 1 << slices.Index(below, s-power(p))
			}
		}
		least[counts[code]] = min(least[counts[code]], onesIn(shadows[code]))
	}
	return least
}

func onesIn(bits uint32) int {
	ones := 0
	for ; bits > 0; bits &= bits - 1 {
		ones++
	}
	return ones
}

func TestShadowLeastOfAllFamilies(t *testing.T) {
	// Six points are the most for which all families of a size, up to 2 to the power of 20, can be tried.
	for n := 1; n <= 6; n++ {
		for k := 1; k <= n; k++ {
			for m, want := range leastOfAll(n, k) {
				least, ok := impl.ShadowLeast(m, k)
				wantNumber(t, fmt.Sprintf("ShadowLeast(%d, %d)", m, k), least, ok, want)
			}
		}
	}
}

// nextOfSize returns the next number with as many bits that are 1.
func nextOfSize(s uint64) uint64 {
	low := s & -s
	high := s + low
	return high | (s^high)/low>>2
}

// Families of more than PointsMax points: the first sets are taken one by one, and their shadow is collected.
func TestShadowLeastOfFirstSets(t *testing.T) {
	for k := 1; k <= 8; k++ {
		shadow := map[uint64]bool{}
		s := uint64(1)<<k - 1
		for m := 0; m <= 12000 && (k > 1 || m <= 40) && (k > 2 || m < 820) && (k > 3 || m < 10660); m++ {
			least, ok := impl.ShadowLeast(m, k)
			wantNumber(t, fmt.Sprintf("ShadowLeast(%d, %d)", m, k), least, ok, len(shadow))
			for rest := s; rest > 0; rest &= rest - 1 {
				shadow[s&^(rest&-rest)] = true
			}
			s = nextOfSize(s)
		}
	}
}

func TestPromise31ShadowLeast(t *testing.T) {
	rows := triangle(41)
	for k := 1; k <= 8; k++ {
		check := func(m int) {
			least, ok := impl.ShadowLeast(m, k)
			more, moreOk := impl.ShadowLeast(m+1, k)
			if ok && moreOk && more < least {
				t.Errorf("ShadowLeast(%d, %d) is %d, for one set more %d", m, k, least, more)
			}
		}
		for m := range 5000 {
			check(m)
		}
		for m := 5000; m <= 1000000; m += 97 {
			check(m)
		}
		for a := k; a <= 41; a++ {
			for m := rows[a][k] - 2; m <= rows[a][k]+1; m++ {
				check(m)
			}
		}
	}
}

func TestShadowLeastOfAllSets(t *testing.T) {
	rows := triangle(41)
	for k := 1; k <= 8; k++ {
		none, ok := impl.ShadowLeast(0, k)
		wantNumber(t, fmt.Sprintf("ShadowLeast(0, %d)", k), none, ok, 0)
		one, ok := impl.ShadowLeast(1, k)
		wantNumber(t, fmt.Sprintf("ShadowLeast(1, %d)", k), one, ok, k)
		for a := k; a <= 40 && rows[a][k] <= 1000000; a++ {
			least, ok := impl.ShadowLeast(rows[a][k], k)
			wantNumber(t, fmt.Sprintf("ShadowLeast(%d, %d)", rows[a][k], k), least, ok, rows[a][k-1])
			if rows[a][k] < 1000000 && a < 40 {
				more, ok := impl.ShadowLeast(rows[a][k]+1, k)
				wantNumber(t, fmt.Sprintf("ShadowLeast(%d, %d)", rows[a][k]+1, k), more, ok, rows[a][k-1]+k-1)
			}
		}
	}
}

// The greatest numbers of sets that can be told: the sets of 41 points without the last one, or cascadeMax.
func TestShadowLeastAtItsLimits(t *testing.T) {
	rows := triangle(41)
	for k := 1; k <= 5; k++ {
		all := rows[41][k]
		least, ok := impl.ShadowLeast(all-1, k)
		wantNumber(t, fmt.Sprintf("ShadowLeast(%d, %d)", all-1, k), least, ok, rows[41][k-1])
		for _, m := range []int{all, all + 1, 1000000} {
			more, ok := impl.ShadowLeast(m, k)
			wantNoNumber(t, fmt.Sprintf("ShadowLeast(%d, %d)", m, k), more, ok)
		}
	}
	for k := 6; k <= 8; k++ {
		list, _ := impl.Cascade(1000000, k)
		want := 0
		for i, a := range list {
			want += rows[a][k-1-i]
		}
		least, ok := impl.ShadowLeast(1000000, k)
		wantNumber(t, fmt.Sprintf("ShadowLeast(1000000, %d)", k), least, ok, want)
	}
}

func TestShadowLeastOthers(t *testing.T) {
	for _, k := range []int{math.MinInt, -8, -1, 0, 9, 10, 64, 1 << 32, 1<<32 + 1, math.MaxInt} {
		for _, m := range []int{math.MinInt, -1, 0, 1, 2, 40, 1000000, 1000001, math.MaxInt} {
			least, ok := impl.ShadowLeast(m, k)
			wantNoNumber(t, fmt.Sprintf("ShadowLeast(%d, %d)", m, k), least, ok)
		}
	}
	for k := 1; k <= 8; k++ {
		for _, m := range []int{math.MinInt, -1000000, -2, -1, 1000001, 1000002, 1 << 32, 1<<32 + 1, math.MaxInt} {
			least, ok := impl.ShadowLeast(m, k)
			wantNoNumber(t, fmt.Sprintf("ShadowLeast(%d, %d)", m, k), least, ok)
		}
	}
}

func checkTimes(t *testing.T, n int, f []int) {
	t.Helper()
	want := f
	for i := 0; i <= n; i++ {
		times, ok := impl.ShadowTimes(n, f, i)
		wantList(t, fmt.Sprintf("ShadowTimes(%d, %v, %d)", n, f, i), times, ok, want)
		next, ok := impl.ShadowOf(n, times)
		want = shadowByHand(n, want)
		wantList(t, fmt.Sprintf("ShadowOf(%d, %v)", n, times), next, ok, want)
	}
}

func TestPromise32ShadowTimes(t *testing.T) {
	eachFamily(func(n int, f []int) { checkTimes(t, n, f) })
	for n := 4; n <= impl.PointsMax; n++ {
		for k := 0; k <= n; k++ {
			level := levelByHand(n, k)
			checkTimes(t, n, level[:(len(level)+1)/2])
			checkTimes(t, n, level[len(level)-1:])
		}
	}
}

func TestShadowTimesEdges(t *testing.T) {
	for n := 1; n <= impl.PointsMax; n++ {
		full := power(n) - 1
		all := where(n, func(s int) bool { return true })
		for _, x := range []struct{ f, last []int }{
			{nil, nil},
			{[]int{}, nil},
			{[]int{0}, nil},
			{[]int{full}, []int{0}},
			{[]int{0, full}, []int{0}},
			{all, []int{0}},
			{all[:full], nil},
		} {
			none, ok := impl.ShadowTimes(n, x.f, 0)
			wantList(t, fmt.Sprintf("ShadowTimes(%d, %v, 0)", n, x.f), none, ok, x.f)
			last, ok := impl.ShadowTimes(n, x.f, n)
			wantList(t, fmt.Sprintf("ShadowTimes(%d, %v, %d)", n, x.f, n), last, ok, x.last)
		}
	}
}

func TestShadowTimesOthers(t *testing.T) {
	for n := 1; n <= impl.PointsMax; n++ {
		for _, i := range []int{math.MinInt, -n, -1, n + 1, n + 2, 64, 1 << 32, math.MaxInt} {
			for _, f := range [][]int{nil, {}, {0}, {0, 1}, {1, 0}, {-1}, {power(n) - 1}} {
				times, ok := impl.ShadowTimes(n, f, i)
				wantNoList(t, fmt.Sprintf("ShadowTimes(%d, %v, %d)", n, f, i), times, ok)
			}
		}
	}
	for _, x := range badFamilies() {
		for _, i := range []int{-1, 0, 1, x.n, x.n / 2} {
			times, ok := impl.ShadowTimes(x.n, x.list, i)
			wantNoList(t, fmt.Sprintf("ShadowTimes(%d, %v, %d)", x.n, x.list, i), times, ok)
		}
	}
}

func TestShadowEven(t *testing.T) {
	eachFamily(func(n int, f []int) {
		var sizes [impl.PointsMax + 1]int
		for _, s := range f {
			sizes[len(pointsByHand(n, s))] = 1
		}
		if got, want := impl.ShadowEven(n, f), sum(sizes[:]) == 1; got != want {
			t.Errorf("ShadowEven(%d, %v) is %v, want %v", n, f, got, want)
		}
	})
	eachEvenFamily(func(n, k int, f []int) {
		if got, want := impl.ShadowEven(n, f), len(f) > 0; got != want {
			t.Errorf("ShadowEven(%d, %v) is %v, want %v", n, f, got, want)
		}
	})
}

// One set of another size, wherever it stands, makes a family uneven.
func TestShadowEvenWithAnotherSize(t *testing.T) {
	for n := 2; n <= impl.PointsMax; n++ {
		for k := 0; k <= n; k++ {
			for s := range power(n) {
				f := levelByHand(n, k)
				at, found := slices.BinarySearch(f, s)
				if found {
					continue
				}
				f = slices.Insert(f, at, s)
				if impl.ShadowEven(n, f) {
					t.Errorf("ShadowEven(%d, %v) holds", n, f)
				}
			}
		}
	}
}

func TestShadowEvenOthers(t *testing.T) {
	for n := 1; n <= impl.PointsMax; n++ {
		for _, f := range [][]int{nil, {}} {
			if impl.ShadowEven(n, f) {
				t.Errorf("ShadowEven(%d, %v) holds", n, f)
			}
		}
		for _, f := range [][]int{{0}, {power(n) - 1}} {
			if !impl.ShadowEven(n, f) {
				t.Errorf("ShadowEven(%d, %v) does not hold", n, f)
			}
		}
	}
	for _, x := range append(badFamilies(), numberedList{2, []int{2, 1}}, numberedList{2, []int{1, 1}}, numberedList{2, []int{1, 2, 4}}) {
		if impl.ShadowEven(x.n, x.list) {
			t.Errorf("ShadowEven(%d, %v) holds", x.n, x.list)
		}
	}
}

// downByHand joins the first sets of each size.
func downByHand(n int, list []int) []int {
	var f []int
	for k, m := range list {
		f = append(f, levelByHand(n, k)[:m]...)
	}
	slices.Sort(f)
	return f
}

// possibleByHand tells whether a list tells for each size a number of sets that there are.
func possibleByHand(n int, list []int) bool {
	ways := triangle(n)[n]
	if len(list) != n+1 {
		return false
	}
	for k, m := range list {
		if m < 0 || m > ways[k] {
			return false
		}
	}
	return true
}

func checkImpossible(t *testing.T, n int, list []int) {
	t.Helper()
	down, ok := impl.ShadowDown(n, list)
	wantNoList(t, fmt.Sprintf("ShadowDown(%d, %v)", n, list), down, ok)
	if impl.ShadowProfile(n, list) {
		t.Errorf("ShadowProfile(%d, %v) holds", n, list)
	}
}

// checkCounts checks ShadowProfile and ShadowDown of a list of any numbers, as the promises 33 and 34 tell.
func checkCounts(t *testing.T, n int, list []int) {
	t.Helper()
	if !possibleByHand(n, list) {
		checkImpossible(t, n, list)
		return
	}
	f := downByHand(n, list)
	down, ok := impl.ShadowDown(n, list)
	wantList(t, fmt.Sprintf("ShadowDown(%d, %v)", n, list), down, ok, f)
	profile, ok := impl.FamilyProfile(n, down)
	wantList(t, fmt.Sprintf("FamilyProfile(%d, %v)", n, down), profile, ok, list)
	shadow, _ := impl.ShadowOf(n, down)
	if got, want := impl.ShadowProfile(n, list), isPart(shadowByHand(n, f), f); got != want || got != isPart(shadow, down) {
		t.Errorf("ShadowProfile(%d, %v) is %v, the shadow of %v is %v", n, list, got, down, shadow)
	}
}

// eachCounts calls a check for each list of numbers from low to as many as there are sets of the size and over more.
func eachCounts(n, low, over int, check func(list []int)) {
	ways := triangle(n)[n]
	list := make([]int, n+1)
	var fill func(k int)
	fill = func(k int) {
		if k > n {
			check(slices.Clone(list))
			return
		}
		for list[k] = low; list[k] <= ways[k]+over; list[k]++ {
			fill(k + 1)
		}
	}
	fill(0)
}

func TestPromises33And34ShadowProfileAndShadowDown(t *testing.T) {
	for n := 1; n <= 4; n++ {
		eachCounts(n, -1, 1, func(list []int) { checkCounts(t, n, list) })
	}
	eachCounts(5, 0, 0, func(list []int) { checkCounts(t, 5, list) })
}

// A list is a profile of a family that has its shadow exactly if there is such a family.
func TestShadowProfileOfAllFamilies(t *testing.T) {
	for n := 1; n <= 4; n++ {
		found := map[string]bool{}
		for code := range power(power(n)) {
			f := where(n, func(s int) bool { return code>>s&1 == 1 })
			if !isPart(shadowByHand(n, f), f) {
				continue
			}
			profile, _ := impl.FamilyProfile(n, f)
			found[fmt.Sprint(profile)] = true
		}
		eachCounts(n, 0, 0, func(list []int) {
			if got, want := impl.ShadowProfile(n, list), found[fmt.Sprint(list)]; got != want {
				t.Errorf("ShadowProfile(%d, %v) is %v, want %v", n, list, got, want)
			}
		})
	}
}

// mostAbove takes by hand the greatest number of first sets of size k whose shadow has at most m sets.
func mostAbove(n, k, m int) int {
	level := levelByHand(n, k)
	most := 0
	for most < len(level) && len(shadowByHand(n, level[:most+1])) <= m {
		most++
	}
	return most
}

// Each number is set to its bound and to one more, below it all sets, above it none.
func TestShadowProfileAtItsBounds(t *testing.T) {
	for n := 1; n <= impl.PointsMax; n++ {
		ways := triangle(n)[n]
		for k := 1; k <= n; k++ {
			for m := 0; m <= ways[k-1]; m++ {
				list := make([]int, n+1)
				copy(list, ways[:k-1])
				list[k-1], list[k] = m, mostAbove(n, k, m)
				if !impl.ShadowProfile(n, list) {
					t.Errorf("ShadowProfile(%d, %v) does not hold", n, list)
				}
				checkCounts(t, n, list)
				list[k]++
				if impl.ShadowProfile(n, list) {
					t.Errorf("ShadowProfile(%d, %v) holds", n, list)
				}
				checkCounts(t, n, list)
			}
		}
	}
}

// Each number in turn is at its bound: that by the one ahead of it, going up.
func TestShadowProfileWithAllNumbersAtTheirBounds(t *testing.T) {
	for n := 1; n <= impl.PointsMax; n++ {
		ways := triangle(n)[n]
		for start := 0; start <= n; start++ {
			for m := 1; m <= ways[start]; m++ {
				list := make([]int, n+1)
				copy(list, ways[:start])
				list[start] = m
				for k := start + 1; k <= n; k++ {
					list[k] = mostAbove(n, k, list[k-1])
				}
				if !impl.ShadowProfile(n, list) {
					t.Errorf("ShadowProfile(%d, %v) does not hold", n, list)
				}
				checkCounts(t, n, list)
				for k := start + 1; k <= n; k++ {
					more := slices.Clone(list)
					more[k]++
					if impl.ShadowProfile(n, more) {
						t.Errorf("ShadowProfile(%d, %v) holds", n, more)
					}
				}
			}
		}
	}
}

func TestShadowProfileAndShadowDownEdges(t *testing.T) {
	for n := 1; n <= impl.PointsMax; n++ {
		ways := triangle(n)[n]
		none, one, last := make([]int, n+1), make([]int, n+1), make([]int, n+1)
		one[0], last[n] = 1, 1
		for _, x := range []struct {
			list, down []int
			profile    bool
		}{
			{none, nil, true},
			{one, []int{0}, true},
			{last, []int{power(n) - 1}, false},
			{ways, where(n, func(s int) bool { return true }), true},
		} {
			down, ok := impl.ShadowDown(n, x.list)
			wantList(t, fmt.Sprintf("ShadowDown(%d, %v)", n, x.list), down, ok, x.down)
			if got := impl.ShadowProfile(n, x.list); got != x.profile {
				t.Errorf("ShadowProfile(%d, %v) is %v", n, x.list, got)
			}
		}
		for k := range ways {
			for _, m := range []int{math.MinInt, -1, ways[k] + 1, ways[k] + 2, 1 << 32, 1<<32 + 1, math.MaxInt} {
				for _, base := range [][]int{none, one, ways} {
					list := slices.Clone(base)
					list[k] = m
					checkImpossible(t, n, list)
				}
			}
		}
	}
}

func TestShadowProfileAndShadowDownOthers(t *testing.T) {
	for _, n := range badCounts {
		for _, list := range [][]int{nil, {}, {0}, {1}, {0, 0}, {1, 1}, {1, 0, 0}, make([]int, 10), make([]int, 64)} {
			checkImpossible(t, n, list)
		}
	}
	for n := 1; n <= impl.PointsMax; n++ {
		for size := range 20 {
			for _, first := range []int{0, 1} {
				list := make([]int, size)
				if size > 0 {
					list[0] = first
				}
				if size != n+1 {
					checkImpossible(t, n, list)
				}
			}
		}
		checkImpossible(t, n, nil)
		checkImpossible(t, n, triangle(n)[n][:n])
		checkImpossible(t, n, append(triangle(n)[n], 0))
	}
}

// The results are worked out by hand.
func TestShadowExamples(t *testing.T) {
	f := []int{0, 3, 13}
	for _, x := range []struct {
		name string
		call func() ([]int, bool)
		want []int
	}{
		{"ShadowOf", func() ([]int, bool) { return impl.ShadowOf(4, f) }, []int{1, 2, 5, 9, 12}},
		{"ShadowUp", func() ([]int, bool) { return impl.ShadowUp(4, f) }, []int{1, 2, 4, 7, 8, 11, 15}},
		{"ShadowFirst", func() ([]int, bool) { return impl.ShadowFirst(5, 3, 5) }, []int{7, 11, 13, 14, 19}},
		{"ShadowTimes", func() ([]int, bool) { return impl.ShadowTimes(4, f, 2) }, []int{0, 1, 4, 8}},
		{"ShadowDown", func() ([]int, bool) { return impl.ShadowDown(4, []int{1, 3, 2, 1, 0}) }, []int{0, 1, 2, 3, 4, 5, 7}},
	} {
		got, ok := x.call()
		wantList(t, x.name, got, ok, x.want)
	}
	least, ok := impl.ShadowLeast(28, 3)
	wantNumber(t, "ShadowLeast(28, 3)", least, ok, 15+4+1)
	if !impl.ShadowProfile(4, []int{1, 3, 3, 1, 0}) || impl.ShadowProfile(4, []int{1, 3, 2, 1, 0}) {
		t.Error("ShadowProfile takes one set of three points to have other than three below it")
	}
}

// shadowCalls has each function that makes a family of a family, with numbers of times that are valid for each n.
func shadowCalls() []familyCall {
	return []familyCall{
		{"ShadowOf", impl.ShadowOf},
		{"ShadowUp", impl.ShadowUp},
		{"ShadowTimes of 0", func(n int, f []int) ([]int, bool) { return impl.ShadowTimes(n, f, 0) }},
		{"ShadowTimes of 1", func(n int, f []int) ([]int, bool) { return impl.ShadowTimes(n, f, 1) }},
		{"ShadowTimes of n", func(n int, f []int) ([]int, bool) { return impl.ShadowTimes(n, f, n) }},
	}
}

func TestShadowCallsOthers(t *testing.T) {
	for _, c := range shadowCalls() {
		for _, x := range badFamilies() {
			got, ok := c.call(x.n, x.list)
			wantNoList(t, fmt.Sprintf("%s, for %d points and %v,", c.name, x.n, x.list), got, ok)
		}
	}
}

func TestShadowsAreNewMemory(t *testing.T) {
	for _, c := range shadowCalls() {
		eachFamily(func(n int, f []int) { checkNewMemory(t, c, n, f) })
	}
	first := familyCall{"ShadowFirst", func(n int, f []int) ([]int, bool) { return impl.ShadowFirst(n, n/2, len(f)) }}
	down := familyCall{"ShadowDown", impl.ShadowDown}
	for n := 1; n <= impl.PointsMax; n++ {
		ways := triangle(n)[n]
		for m := range ways[n/2] + 1 {
			checkNewMemory(t, first, n, make([]int, m))
			list := slices.Clone(ways)
			list[n/2] = m
			checkNewMemory(t, down, n, list)
		}
	}
}

func TestShadowEvenAndShadowProfileLeaveTheirArguments(t *testing.T) {
	eachFamily(func(n int, f []int) {
		given := slices.Clone(f)
		impl.ShadowEven(n, given)
		if !slices.Equal(given, f) {
			t.Errorf("ShadowEven(%d, %v) changed the list to %v", n, f, given)
		}
	})
	for n := 1; n <= 4; n++ {
		eachCounts(n, -1, 1, func(list []int) {
			given := slices.Clone(list)
			impl.ShadowProfile(n, given)
			if !slices.Equal(given, list) {
				t.Errorf("ShadowProfile(%d, %v) changed the list to %v", n, list, given)
			}
		})
	}
}

// shadowAnswers tells what each function of the chapter makes of a family, of its profile and of its number of sets.
func shadowAnswers(n int, f []int) []string {
	var out []string
	for _, c := range shadowCalls() {
		list, ok := c.call(n, f)
		out = append(out, fmt.Sprint(list, ok))
	}
	profile, _ := impl.FamilyProfile(n, f)
	first, firstOk := impl.ShadowFirst(n, n/2, len(f))
	least, leastOk := impl.ShadowLeast(len(f), 3)
	down, downOk := impl.ShadowDown(n, profile)
	return append(out, fmt.Sprint(first, firstOk, least, leastOk, down, downOk,
		impl.ShadowEven(n, f), impl.ShadowProfile(n, profile)))
}

func TestShadowsKeepNoState(t *testing.T) {
	checkNoState(t, shadowAnswers)
}
