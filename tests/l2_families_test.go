package tests

import (
	"fmt"
	"math"
	"slices"
	"testing"

	"loop.example/setshadows/impl"
)

func TestPromise13FamilyIn(t *testing.T) {
	eachFamily(func(n int, f []int) {
		if !impl.FamilyIn(n, f) {
			t.Errorf("FamilyIn(%d, %v) does not hold", n, f)
		}
		of, ok := impl.FamilyOf(n, reversed(f))
		wantList(t, fmt.Sprintf("FamilyOf(%d, %v)", n, reversed(f)), of, ok, f)
	})
}

func TestFamilyInEdges(t *testing.T) {
	for n := 1; n <= impl.PointsMax; n++ {
		for _, f := range [][]int{nil, {}, {0}, {power(n) - 1}, {0, power(n) - 1}} {
			if !impl.FamilyIn(n, f) {
				t.Errorf("FamilyIn(%d, %v) does not hold", n, f)
			}
		}
	}
}

// eachShortList calls a check for each list of up to three numbers from -1 to 4.
func eachShortList(check func(list []int)) {
	check(nil)
	for a := -1; a <= 4; a++ {
		check([]int{a})
		for b := -1; b <= 4; b++ {
			check([]int{a, b})
			for c := -1; c <= 4; c++ {
				check([]int{a, b, c})
			}
		}
	}
}

func familyByHand(n int, list []int) bool {
	for i, s := range list {
		if s < 0 || s >= power(n) || i > 0 && list[i-1] >= s {
			return false
		}
	}
	return true
}

func TestFamilyInShortLists(t *testing.T) {
	eachShortList(func(list []int) {
		for n := 1; n <= 2; n++ {
			if got, want := impl.FamilyIn(n, list), familyByHand(n, list); got != want {
				t.Errorf("FamilyIn(%d, %v) is %v, want %v", n, list, got, want)
			}
		}
	})
}

func TestFamilyInOthers(t *testing.T) {
	for _, x := range badFamilies() {
		if impl.FamilyIn(x.n, x.list) {
			t.Errorf("FamilyIn(%d, %v) holds", x.n, x.list)
		}
	}
}

// repeated has each set of a family, some of them again, and not in ascending order.
func repeated(f []int) []int {
	list := slices.Concat(reversed(f), f)
	for i, s := range f {
		if i%3 == 0 {
			list = append(list, s, s)
		}
	}
	return list
}

func checkFamilyOf(t *testing.T, n int, list, want []int) {
	t.Helper()
	before := slices.Clone(list)
	of, ok := impl.FamilyOf(n, list)
	wantList(t, fmt.Sprintf("FamilyOf(%d, %v)", n, before), of, ok, want)
	if !slices.Equal(list, before) {
		t.Errorf("FamilyOf(%d, %v) changed the list to %v", n, before, list)
	}
	if !impl.FamilyIn(n, of) || len(of) > len(list) {
		t.Errorf("FamilyOf(%d, %v) returned %v, which is no family with at most as many sets", n, list, of)
	}
	twice := slices.Concat(list, list)
	again, ok := impl.FamilyOf(n, twice)
	wantList(t, fmt.Sprintf("FamilyOf(%d, %v)", n, twice), again, ok, of)
}

func TestPromise14FamilyOf(t *testing.T) {
	eachFamily(func(n int, f []int) {
		for _, list := range [][]int{f, reversed(f), repeated(f)} {
			checkFamilyOf(t, n, list, f)
		}
	})
}

func TestFamilyOfShortLists(t *testing.T) {
	eachShortList(func(list []int) {
		for _, s := range list {
			if s < 0 || s > 3 {
				of, ok := impl.FamilyOf(2, list)
				wantNoList(t, fmt.Sprintf("FamilyOf(2, %v)", list), of, ok)
				return
			}
		}
		want := where(2, func(s int) bool { return slices.Contains(list, s) })
		checkFamilyOf(t, 2, list, want)
	})
}

func TestFamilyOfEdges(t *testing.T) {
	for n := 1; n <= impl.PointsMax; n++ {
		checkFamilyOf(t, n, nil, nil)
		checkFamilyOf(t, n, []int{}, nil)
		last := power(n) - 1
		checkFamilyOf(t, n, slices.Repeat([]int{0}, 700), []int{0})
		checkFamilyOf(t, n, slices.Repeat([]int{last, 0}, 700), []int{0, last})
	}
}

func TestFamilyOfOthers(t *testing.T) {
	for _, x := range badLists() {
		of, ok := impl.FamilyOf(x.n, x.list)
		wantNoList(t, fmt.Sprintf("FamilyOf(%d, %v)", x.n, x.list), of, ok)
	}
}

func TestPromise15FamilyLevel(t *testing.T) {
	for n := 1; n <= impl.PointsMax; n++ {
		for k := 0; k <= n; k++ {
			level, ok := impl.FamilyLevel(n, k)
			wantList(t, fmt.Sprintf("FamilyLevel(%d, %d)", n, k), level, ok, levelByHand(n, k))
			if ways, _ := impl.Choose(n, k); len(level) != ways {
				t.Errorf("FamilyLevel(%d, %d) has %d sets, Choose is %d", n, k, len(level), ways)
			}
			for _, s := range level {
				size, ok := impl.SetSize(n, s)
				wantNumber(t, fmt.Sprintf("SetSize(%d, %d)", n, s), size, ok, k)
			}
		}
	}
}

func TestFamilyLevelEdges(t *testing.T) {
	for n := 1; n <= impl.PointsMax; n++ {
		none, ok := impl.FamilyLevel(n, 0)
		wantList(t, fmt.Sprintf("FamilyLevel(%d, 0)", n), none, ok, []int{0})
		all, ok := impl.FamilyLevel(n, n)
		wantList(t, fmt.Sprintf("FamilyLevel(%d, %d)", n, n), all, ok, []int{power(n) - 1})
	}
}

func TestFamilyLevelOthers(t *testing.T) {
	for _, n := range badCounts {
		for _, k := range []int{-1, 0, 1, n} {
			level, ok := impl.FamilyLevel(n, k)
			wantNoList(t, fmt.Sprintf("FamilyLevel(%d, %d)", n, k), level, ok)
		}
	}
	for n := 1; n <= impl.PointsMax; n++ {
		for _, k := range []int{math.MinInt, -1, n + 1, n + 2, 64, math.MaxInt} {
			level, ok := impl.FamilyLevel(n, k)
			wantNoList(t, fmt.Sprintf("FamilyLevel(%d, %d)", n, k), level, ok)
		}
	}
}

// members tells of each set whether a list has it.
func members(list []int) (in [256]bool) {
	for _, s := range list {
		in[s] = true
	}
	return in
}

func TestPromise16FamilyUnion(t *testing.T) {
	eachTwoFamilies(func(n int, f, g []int) {
		inF, inG := members(f), members(g)
		union, ok := impl.FamilyUnion(n, f, g)
		wantList(t, fmt.Sprintf("FamilyUnion(%d, %v, %v)", n, f, g), union, ok,
			where(n, func(s int) bool { return inF[s] || inG[s] }))
		common, _ := impl.FamilyCommon(n, f, g)
		if len(union)+len(common) != len(f)+len(g) {
			t.Errorf("FamilyUnion(%d, %v, %v) has %d sets, FamilyCommon %d", n, f, g, len(union), len(common))
		}
		exchanged, ok := impl.FamilyUnion(n, g, f)
		wantList(t, fmt.Sprintf("FamilyUnion(%d, %v, %v)", n, g, f), exchanged, ok, union)
	})
}

func TestPromise17FamilyCommon(t *testing.T) {
	eachTwoFamilies(func(n int, f, g []int) {
		inF, inG := members(f), members(g)
		common, ok := impl.FamilyCommon(n, f, g)
		wantList(t, fmt.Sprintf("FamilyCommon(%d, %v, %v)", n, f, g), common, ok,
			where(n, func(s int) bool { return inF[s] && inG[s] }))
		less, _ := impl.FamilyLess(n, f, g)
		lessLess, ok := impl.FamilyLess(n, f, less)
		wantList(t, fmt.Sprintf("FamilyLess(%d, %v, %v)", n, f, less), lessLess, ok, common)
	})
}

func TestPromise18FamilyLess(t *testing.T) {
	eachTwoFamilies(func(n int, f, g []int) {
		inF, inG := members(f), members(g)
		less, ok := impl.FamilyLess(n, f, g)
		wantList(t, fmt.Sprintf("FamilyLess(%d, %v, %v)", n, f, g), less, ok,
			where(n, func(s int) bool { return inF[s] && !inG[s] }))
		none, ok := impl.FamilyCommon(n, less, g)
		wantList(t, fmt.Sprintf("FamilyCommon(%d, %v, %v)", n, less, g), none, ok, nil)
		common, _ := impl.FamilyCommon(n, f, g)
		both, ok := impl.FamilyUnion(n, less, common)
		wantList(t, fmt.Sprintf("FamilyUnion(%d, %v, %v)", n, less, common), both, ok, f)
	})
}

func TestPromise19FamilyOther(t *testing.T) {
	eachFamily(func(n int, f []int) {
		in := members(f)
		other, ok := impl.FamilyOther(n, f)
		wantList(t, fmt.Sprintf("FamilyOther(%d, %v)", n, f), other, ok,
			where(n, func(s int) bool { return in[power(n)-1-s] }))
		if !impl.FamilyIn(n, other) {
			t.Errorf("FamilyOther(%d, %v) returned %v, which is no family", n, f, other)
		}
		back, ok := impl.FamilyOther(n, other)
		wantList(t, fmt.Sprintf("FamilyOther(%d, %v)", n, other), back, ok, f)
		profile, _ := impl.FamilyProfile(n, f)
		otherProfile, ok := impl.FamilyProfile(n, other)
		wantList(t, fmt.Sprintf("FamilyProfile(%d, %v)", n, other), otherProfile, ok, reversed(profile))
	})
}

func TestPromise20FamilyRest(t *testing.T) {
	eachFamily(func(n int, f []int) {
		in := members(f)
		rest, ok := impl.FamilyRest(n, f)
		wantList(t, fmt.Sprintf("FamilyRest(%d, %v)", n, f), rest, ok,
			where(n, func(s int) bool { return !in[s] }))
		back, ok := impl.FamilyRest(n, rest)
		wantList(t, fmt.Sprintf("FamilyRest(%d, %v)", n, rest), back, ok, f)
		if len(f)+len(rest) != power(n) {
			t.Errorf("FamilyRest(%d, %v) has %d sets", n, f, len(rest))
		}
	})
}

func sum(list []int) int {
	total := 0
	for _, x := range list {
		total += x
	}
	return total
}

func TestPromise21FamilyProfile(t *testing.T) {
	eachFamily(func(n int, f []int) {
		want := make([]int, n+1)
		for _, s := range f {
			want[len(pointsByHand(n, s))]++
		}
		profile, ok := impl.FamilyProfile(n, f)
		wantList(t, fmt.Sprintf("FamilyProfile(%d, %v)", n, f), profile, ok, want)
		if len(profile) != n+1 || sum(profile) != len(f) {
			t.Errorf("FamilyProfile(%d, %v) returned %v", n, f, profile)
		}
	})
}

func TestPromise22FamilyDegrees(t *testing.T) {
	eachFamily(func(n int, f []int) {
		want, sizes := make([]int, n), 0
		for _, s := range f {
			for _, p := range pointsByHand(n, s) {
				want[p]++
				sizes++
			}
		}
		degrees, ok := impl.FamilyDegrees(n, f)
		wantList(t, fmt.Sprintf("FamilyDegrees(%d, %v)", n, f), degrees, ok, want)
		if sum(degrees) != sizes {
			t.Errorf("FamilyDegrees(%d, %v) adds up to %d, the sizes to %d", n, f, sum(degrees), sizes)
		}
		for p, degree := range degrees {
			if link, _ := impl.FamilyLink(n, f, p); len(link) != degree {
				t.Errorf("FamilyDegrees(%d, %v) is %d for the point %d, FamilyLink has %d sets", n, f, degree, p, len(link))
			}
		}
	})
}

func checkLink(t *testing.T, n int, f []int, p int) {
	t.Helper()
	in := members(f)
	link, ok := impl.FamilyLink(n, f, p)
	wantList(t, fmt.Sprintf("FamilyLink(%d, %v, %d)", n, f, p), link, ok,
		where(n, func(s int) bool { return s/power(p)%2 == 0 && in[s+power(p)] }))
	without, _ := impl.FamilyWithout(n, f, p)
	if len(link)+len(without) != len(f) {
		t.Errorf("FamilyLink(%d, %v, %d) has %d sets, FamilyWithout %d", n, f, p, len(link), len(without))
	}
	union, _ := impl.FamilyUnion(n, link, without)
	others := power(n) - 1 - power(p)
	trace, ok := impl.FamilyTrace(n, f, others)
	wantList(t, fmt.Sprintf("FamilyTrace(%d, %v, %d)", n, f, others), trace, ok, union)
}

func TestPromise23FamilyLink(t *testing.T) {
	eachFamily(func(n int, f []int) {
		for p := range n {
			checkLink(t, n, f, p)
		}
	})
}

func checkWithout(t *testing.T, n int, f []int, p int) {
	t.Helper()
	in := members(f)
	without, ok := impl.FamilyWithout(n, f, p)
	wantList(t, fmt.Sprintf("FamilyWithout(%d, %v, %d)", n, f, p), without, ok,
		where(n, func(s int) bool { return s/power(p)%2 == 0 && in[s] }))
	again, ok := impl.FamilyWithout(n, without, p)
	wantList(t, fmt.Sprintf("FamilyWithout(%d, %v, %d)", n, without, p), again, ok, without)
	for _, s := range without {
		if slices.Contains(pointsByHand(n, s), p) {
			t.Errorf("FamilyWithout(%d, %v, %d) has the set %d", n, f, p, s)
		}
	}
}

func TestPromise24FamilyWithout(t *testing.T) {
	eachFamily(func(n int, f []int) {
		for p := range n {
			checkWithout(t, n, f, p)
		}
	})
}

func checkTrace(t *testing.T, n int, f []int, s int) {
	t.Helper()
	var in [256]bool
	for _, x := range f {
		in[x&s] = true
	}
	trace, ok := impl.FamilyTrace(n, f, s)
	wantList(t, fmt.Sprintf("FamilyTrace(%d, %v, %d)", n, f, s), trace, ok,
		where(n, func(x int) bool { return in[x] }))
	again, ok := impl.FamilyTrace(n, trace, s)
	wantList(t, fmt.Sprintf("FamilyTrace(%d, %v, %d)", n, trace, s), again, ok, trace)
	if len(trace) > len(f) || len(trace) > power(len(pointsByHand(n, s))) {
		t.Errorf("FamilyTrace(%d, %v, %d) has %d sets", n, f, s, len(trace))
	}
}

func TestPromise25FamilyTrace(t *testing.T) {
	eachFamily(func(n int, f []int) {
		for s := range power(n) {
			checkTrace(t, n, f, s)
		}
	})
}

// combinedByHand has what an operation makes of each set of one family and each one of another one.
func combinedByHand(n int, f, g []int, operation func(a, b int) int) []int {
	var in [256]bool
	for _, a := range f {
		for _, b := range g {
			in[operation(a, b)] = true
		}
	}
	return where(n, func(s int) bool { return in[s] })
}

func TestPromise26FamilyMeets(t *testing.T) {
	eachTwoFamilies(func(n int, f, g []int) {
		meets, ok := impl.FamilyMeets(n, f, g)
		wantList(t, fmt.Sprintf("FamilyMeets(%d, %v, %v)", n, f, g), meets, ok,
			combinedByHand(n, f, g, func(a, b int) int { return a & b }))
		otherF, _ := impl.FamilyOther(n, f)
		otherG, _ := impl.FamilyOther(n, g)
		joins, _ := impl.FamilyJoins(n, otherF, otherG)
		other, ok := impl.FamilyOther(n, meets)
		wantList(t, fmt.Sprintf("FamilyOther(%d, %v)", n, meets), other, ok, joins)
	})
}

func TestPromise27FamilyJoins(t *testing.T) {
	eachTwoFamilies(func(n int, f, g []int) {
		joins, ok := impl.FamilyJoins(n, f, g)
		wantList(t, fmt.Sprintf("FamilyJoins(%d, %v, %v)", n, f, g), joins, ok,
			combinedByHand(n, f, g, func(a, b int) int { return a | b }))
		exchanged, ok := impl.FamilyJoins(n, g, f)
		wantList(t, fmt.Sprintf("FamilyJoins(%d, %v, %v)", n, g, f), exchanged, ok, joins)
		if len(joins) > len(f)*len(g) {
			t.Errorf("FamilyJoins(%d, %v, %v) has %d sets", n, f, g, len(joins))
		}
	})
}

// The results are worked out by hand.
func TestFamilyExamples(t *testing.T) {
	f, g := []int{0, 3, 5}, []int{3, 6}
	for _, x := range []struct {
		name string
		call func() ([]int, bool)
		want []int
	}{
		{"FamilyLevel", func() ([]int, bool) { return impl.FamilyLevel(3, 2) }, []int{3, 5, 6}},
		{"FamilyUnion", func() ([]int, bool) { return impl.FamilyUnion(3, f, g) }, []int{0, 3, 5, 6}},
		{"FamilyCommon", func() ([]int, bool) { return impl.FamilyCommon(3, f, g) }, []int{3}},
		{"FamilyLess", func() ([]int, bool) { return impl.FamilyLess(3, f, g) }, []int{0, 5}},
		{"FamilyOther", func() ([]int, bool) { return impl.FamilyOther(3, f) }, []int{2, 4, 7}},
		{"FamilyRest", func() ([]int, bool) { return impl.FamilyRest(3, f) }, []int{1, 2, 4, 6, 7}},
		{"FamilyProfile", func() ([]int, bool) { return impl.FamilyProfile(3, f) }, []int{1, 0, 2, 0}},
		{"FamilyDegrees", func() ([]int, bool) { return impl.FamilyDegrees(3, f) }, []int{2, 1, 1}},
		{"FamilyLink", func() ([]int, bool) { return impl.FamilyLink(3, f, 0) }, []int{2, 4}},
		{"FamilyWithout", func() ([]int, bool) { return impl.FamilyWithout(3, f, 0) }, []int{0}},
		{"FamilyTrace", func() ([]int, bool) { return impl.FamilyTrace(3, f, 6) }, []int{0, 2, 4}},
		{"FamilyMeets", func() ([]int, bool) { return impl.FamilyMeets(3, f, g) }, []int{0, 1, 2, 3, 4}},
		{"FamilyJoins", func() ([]int, bool) { return impl.FamilyJoins(3, f, g) }, []int{3, 6, 7}},
	} {
		got, ok := x.call()
		wantList(t, x.name, got, ok, x.want)
	}
}

type familyCall struct {
	name string
	call func(n int, f []int) ([]int, bool)
}

// oneFamilyCalls has each function that takes one family; the point and the set are valid for each n.
func oneFamilyCalls() []familyCall {
	return []familyCall{
		{"FamilyOther", impl.FamilyOther},
		{"FamilyRest", impl.FamilyRest},
		{"FamilyProfile", impl.FamilyProfile},
		{"FamilyDegrees", impl.FamilyDegrees},
		{"FamilyLink of 0", func(n int, f []int) ([]int, bool) { return impl.FamilyLink(n, f, 0) }},
		{"FamilyWithout of 0", func(n int, f []int) ([]int, bool) { return impl.FamilyWithout(n, f, 0) }},
		{"FamilyTrace of 0", func(n int, f []int) ([]int, bool) { return impl.FamilyTrace(n, f, 0) }},
		{"FamilyTrace of 1", func(n int, f []int) ([]int, bool) { return impl.FamilyTrace(n, f, 1) }},
	}
}

// twoFamilyCalls has each function that takes two families, with the family in each place and in both.
func twoFamilyCalls() []familyCall {
	var out []familyCall
	for _, x := range []struct {
		name string
		call func(n int, f, g []int) ([]int, bool)
	}{
		{"FamilyUnion", impl.FamilyUnion},
		{"FamilyCommon", impl.FamilyCommon},
		{"FamilyLess", impl.FamilyLess},
		{"FamilyMeets", impl.FamilyMeets},
		{"FamilyJoins", impl.FamilyJoins},
	} {
		out = append(out, familyCall{x.name + " with itself", func(n int, f []int) ([]int, bool) { return x.call(n, f, f) }})
		for _, g := range [][]int{nil, {0}, {0, 1}} {
			out = append(out,
				familyCall{fmt.Sprint(x.name, " ahead of ", g), func(n int, f []int) ([]int, bool) { return x.call(n, f, g) }},
				familyCall{fmt.Sprint(x.name, " behind ", g), func(n int, f []int) ([]int, bool) { return x.call(n, g, f) }})
		}
	}
	return out
}

func familyCalls() []familyCall {
	return append(oneFamilyCalls(), twoFamilyCalls()...)
}

func TestFamilyCallsOthers(t *testing.T) {
	for _, c := range familyCalls() {
		for _, x := range badFamilies() {
			got, ok := c.call(x.n, x.list)
			wantNoList(t, fmt.Sprintf("%s, for %d points and %v,", c.name, x.n, x.list), got, ok)
		}
	}
}

func TestFamilyCallsOfNil(t *testing.T) {
	for _, c := range familyCalls() {
		for n := 1; n <= impl.PointsMax; n++ {
			ofNil, ok := c.call(n, nil)
			if !ok {
				t.Errorf("%s, for %d points and nil, fails", c.name, n)
			}
			ofEmpty, ok := c.call(n, []int{})
			wantList(t, fmt.Sprintf("%s, for %d points and an empty list,", c.name, n), ofEmpty, ok, ofNil)
		}
	}
}

func checkNewMemory(t *testing.T, c familyCall, n int, f []int) {
	t.Helper()
	// The numbers behind the family are the caller's too.
	given := append(slices.Clone(f), 0, 1, 0, 1)
	before := slices.Clone(given)
	first, _ := c.call(n, given[:len(f)])
	want := slices.Clone(first)
	second, _ := c.call(n, given[:len(f)])
	scribble(first)
	wantList(t, fmt.Sprintf("%s, for %d points and %v,", c.name, n, f), second, true, want)
	third, ok := c.call(n, given[:len(f)])
	wantList(t, fmt.Sprintf("%s, for %d points and %v,", c.name, n, f), third, ok, want)
	if !slices.Equal(given, before) {
		t.Errorf("%s, for %d points and %v, changed the list to %v", c.name, n, before, given)
	}
}

func TestFamiliesAreNewMemory(t *testing.T) {
	calls := append(familyCalls(),
		familyCall{"FamilyOf", impl.FamilyOf},
		familyCall{"FamilyLevel", func(n int, f []int) ([]int, bool) { return impl.FamilyLevel(n, n/2) }})
	for _, c := range calls {
		eachFamily(func(n int, f []int) { checkNewMemory(t, c, n, f) })
	}
}

func TestFamilyLinkAndWithoutOfNoPoint(t *testing.T) {
	for n := 1; n <= impl.PointsMax; n++ {
		all := where(n, func(s int) bool { return true })
		for _, p := range badPoints(n) {
			for _, f := range [][]int{nil, {}, {0}, {1}, all, {1, 0}} {
				link, ok := impl.FamilyLink(n, f, p)
				wantNoList(t, fmt.Sprintf("FamilyLink(%d, %v, %d)", n, f, p), link, ok)
				without, ok := impl.FamilyWithout(n, f, p)
				wantNoList(t, fmt.Sprintf("FamilyWithout(%d, %v, %d)", n, f, p), without, ok)
			}
		}
	}
	for _, n := range badCounts {
		for _, p := range []int{-1, 0, n - 1, n} {
			link, ok := impl.FamilyLink(n, nil, p)
			wantNoList(t, fmt.Sprintf("FamilyLink(%d, nil, %d)", n, p), link, ok)
			without, ok := impl.FamilyWithout(n, nil, p)
			wantNoList(t, fmt.Sprintf("FamilyWithout(%d, nil, %d)", n, p), without, ok)
		}
	}
}

func TestFamilyTraceOfNoSet(t *testing.T) {
	for _, x := range badSets() {
		for _, f := range [][]int{nil, {}, {0}, {0, 1}, {1, 0}} {
			trace, ok := impl.FamilyTrace(x.n, f, x.s)
			wantNoList(t, fmt.Sprintf("FamilyTrace(%d, %v, %d)", x.n, f, x.s), trace, ok)
		}
	}
}
