package tests

import (
	"fmt"
	"math"
	"slices"
	"testing"

	"loop.example/setshadows/impl"
)

// shiftByHand looks at the result, not at the moves: two sets that differ by the points i and k only are
// one of each, and if the family has just one of them, the shifted one has that with k.
func shiftByHand(n int, f []int, i, k int) []int {
	in := members(f)
	return where(n, func(s int) bool {
		hasI, hasK := s/power(i)%2 == 1, s/power(k)%2 == 1
		switch {
		case hasI == hasK:
			return in[s]
		case hasK:
			return in[s] || in[s-power(k)+power(i)]
		default:
			return in[s] && in[s-power(i)+power(k)]
		}
	})
}

// pressByHand looks at the result too: if the family has just one of a set with p and the same without p,
// the pressed one has that without p.
func pressByHand(n int, f []int, p int) []int {
	in := members(f)
	return where(n, func(s int) bool {
		if s/power(p)%2 == 1 {
			return in[s] && in[s-power(p)]
		}
		return in[s] || in[s+power(p)]
	})
}

// shiftedByHand tells whether no set of a family lacks one to which it would be moved.
func shiftedByHand(n int, f []int) bool {
	in := members(f)
	for _, s := range f {
		points := pointsByHand(n, s)
		for _, i := range points {
			for k := range i {
				if !slices.Contains(points, k) && !in[s-power(i)+power(k)] {
					return false
				}
			}
		}
	}
	return true
}

func pressedByHand(n int, f []int) bool {
	return isPart(shadowByHand(n, f), f)
}

// eachLesser calls a check for each point and each lesser one, in the order of ShiftAll.
func eachLesser(n int, check func(i, k int)) {
	for i := 1; i < n; i++ {
		for k := 0; k < i; k++ {
			check(i, k)
		}
	}
}

func shiftAllByHand(n int, f []int) []int {
	for !shiftedByHand(n, f) {
		eachLesser(n, func(i, k int) { f = shiftByHand(n, f, i, k) })
	}
	return f
}

func pressAllByHand(n int, f []int) []int {
	for !pressedByHand(n, f) {
		for p := range n {
			f = pressByHand(n, f, p)
		}
	}
	return f
}

func checkShift(t *testing.T, n int, f []int, i, k int) {
	t.Helper()
	shifted, ok := impl.ShiftOf(n, f, i, k)
	wantList(t, fmt.Sprintf("ShiftOf(%d, %v, %d, %d)", n, f, i, k), shifted, ok, shiftByHand(n, f, i, k))
	before, _ := impl.FamilyProfile(n, f)
	after, ok := impl.FamilyProfile(n, shifted)
	wantList(t, fmt.Sprintf("FamilyProfile(%d, %v)", n, shifted), after, ok, before)
	shadow, _ := impl.ShadowOf(n, f)
	shadowOfShifted, _ := impl.ShadowOf(n, shifted)
	if len(shadowOfShifted) > len(shadow) {
		t.Errorf("the shadow of ShiftOf(%d, %v, %d, %d) has %d sets, ahead of it %d", n, f, i, k, len(shadowOfShifted), len(shadow))
	}
	shiftedShadow, ok := impl.ShiftOf(n, shadow, i, k)
	if !ok || !isPart(shadowOfShifted, shiftedShadow) {
		t.Errorf("the shadow of ShiftOf(%d, %v, %d, %d) is %v, the shifted shadow %v", n, f, i, k, shadowOfShifted, shiftedShadow)
	}
}

func eachTwoPoints(n int, check func(i, k int)) {
	for i := range n {
		for k := range n {
			check(i, k)
		}
	}
}

func TestPromise35ShiftOf(t *testing.T) {
	eachOfManyFamilies(func(n int, f []int) {
		eachTwoPoints(n, func(i, k int) { checkShift(t, n, f, i, k) })
	})
}

func TestPromise36ShiftOfOnceMore(t *testing.T) {
	eachOfManyFamilies(func(n int, f []int) {
		eachTwoPoints(n, func(i, k int) {
			once, _ := impl.ShiftOf(n, f, i, k)
			more, ok := impl.ShiftOf(n, once, i, k)
			wantList(t, fmt.Sprintf("ShiftOf(%d, %v, %d, %d)", n, once, i, k), more, ok, once)
		})
	})
}

// checkShifted expects a family for which ShiftedIn should hold.
func checkShifted(t *testing.T, n int, f []int) {
	t.Helper()
	if !impl.ShiftedIn(n, f) {
		t.Errorf("ShiftedIn(%d, %v) does not hold", n, f)
	}
	all, ok := impl.ShiftAll(n, f)
	wantList(t, fmt.Sprintf("ShiftAll(%d, %v)", n, f), all, ok, f)
	eachLesser(n, func(i, k int) {
		shifted, ok := impl.ShiftOf(n, f, i, k)
		wantList(t, fmt.Sprintf("ShiftOf(%d, %v, %d, %d)", n, f, i, k), shifted, ok, f)
	})
}

func TestPromise37ShiftedIn(t *testing.T) {
	eachOfManyFamilies(func(n int, f []int) {
		if shiftedByHand(n, f) {
			checkShifted(t, n, f)
		} else if impl.ShiftedIn(n, f) {
			t.Errorf("ShiftedIn(%d, %v) holds", n, f)
		}
	})
}

// The shift from i to i - 1 is the only one to a lesser point that changes the family. Of other shifts none is
// ever the only one: if no shift by one point changes a family, none to a lesser point does.
func TestShiftedInWithOneShiftThatChanges(t *testing.T) {
	for n := 2; n <= impl.PointsMax; n++ {
		ones := levelByHand(n, 1)
		for i := 1; i < n; i++ {
			f := append(slices.Clone(ones[:i-1]), ones[i])
			if impl.ShiftedIn(n, f) {
				t.Errorf("ShiftedIn(%d, %v) holds", n, f)
			}
			all, ok := impl.ShiftAll(n, f)
			wantList(t, fmt.Sprintf("ShiftAll(%d, %v)", n, f), all, ok, ones[:i])
		}
	}
}

// sumByHand adds each point as often as sets have it.
func sumByHand(n int, f []int) int {
	total := 0
	for _, s := range f {
		total += sum(pointsByHand(n, s))
	}
	return total
}

func TestPromise38ShiftSum(t *testing.T) {
	eachOfManyFamilies(func(n int, f []int) {
		total, ok := impl.ShiftSum(n, f)
		wantNumber(t, fmt.Sprintf("ShiftSum(%d, %v)", n, f), total, ok, sumByHand(n, f))
		degrees, _ := impl.FamilyDegrees(n, f)
		weighted := 0
		for p, degree := range degrees {
			weighted += p * degree
		}
		wantNumber(t, fmt.Sprintf("ShiftSum(%d, %v)", n, f), total, ok, weighted)
	})
}

func TestShiftPress(t *testing.T) {
	eachOfManyFamilies(func(n int, f []int) {
		for p := range n {
			pressed, ok := impl.ShiftPress(n, f, p)
			wantList(t, fmt.Sprintf("ShiftPress(%d, %v, %d)", n, f, p), pressed, ok, pressByHand(n, f, p))
			if len(pressed) != len(f) {
				t.Errorf("ShiftPress(%d, %v, %d) has %d sets", n, f, p, len(pressed))
			}
			more, ok := impl.ShiftPress(n, pressed, p)
			wantList(t, fmt.Sprintf("ShiftPress(%d, %v, %d)", n, pressed, p), more, ok, pressed)
		}
	})
}

func checkShiftAll(t *testing.T, n int, f []int) {
	t.Helper()
	all, ok := impl.ShiftAll(n, f)
	wantList(t, fmt.Sprintf("ShiftAll(%d, %v)", n, f), all, ok, shiftAllByHand(n, f))
	if !impl.ShiftedIn(n, all) {
		t.Errorf("ShiftAll(%d, %v) is %v, which is not shifted", n, f, all)
	}
	before, _ := impl.FamilyProfile(n, f)
	after, ok := impl.FamilyProfile(n, all)
	wantList(t, fmt.Sprintf("FamilyProfile(%d, %v)", n, all), after, ok, before)
	sumBefore, _ := impl.ShiftSum(n, f)
	if sumAfter, ok := impl.ShiftSum(n, all); !ok || sumAfter > sumBefore {
		t.Errorf("ShiftSum(%d, %v) is %d, %v, ahead of ShiftAll it is %d", n, all, sumAfter, ok, sumBefore)
	}
}

func checkPressAll(t *testing.T, n int, f []int) {
	t.Helper()
	all, ok := impl.PressAll(n, f)
	wantList(t, fmt.Sprintf("PressAll(%d, %v)", n, f), all, ok, pressAllByHand(n, f))
	if len(all) != len(f) || !impl.PressedIn(n, all) {
		t.Errorf("PressAll(%d, %v) is %v, which has other than %d sets or is not pressed", n, f, all, len(f))
	}
}

func TestShiftAllAndPressAll(t *testing.T) {
	eachOfManyFamilies(func(n int, f []int) {
		checkShiftAll(t, n, f)
		checkPressAll(t, n, f)
	})
}

func TestShiftAllAndPressAllOfFourPoints(t *testing.T) {
	eachFamilyOfFourPoints(func(f []int) {
		all, ok := impl.ShiftAll(4, f)
		wantList(t, fmt.Sprintf("ShiftAll(4, %v)", f), all, ok, shiftAllByHand(4, f))
		pressed, ok := impl.PressAll(4, f)
		wantList(t, fmt.Sprintf("PressAll(4, %v)", f), pressed, ok, pressAllByHand(4, f))
	})
}

// In the orders of the document, no shift and no pressing makes an earlier one change the family again: once
// through all of them is enough for each family, and there is none that needs a second time.
func TestShiftAllAndPressAllAreOneRound(t *testing.T) {
	eachOfManyFamilies(func(n int, f []int) {
		shifted, pressed := f, f
		eachLesser(n, func(i, k int) { shifted, _ = impl.ShiftOf(n, shifted, i, k) })
		for p := range n {
			pressed, _ = impl.ShiftPress(n, pressed, p)
		}
		all, ok := impl.ShiftAll(n, f)
		wantList(t, fmt.Sprintf("ShiftAll(%d, %v)", n, f), all, ok, shifted)
		all, ok = impl.PressAll(n, f)
		wantList(t, fmt.Sprintf("PressAll(%d, %v)", n, f), all, ok, pressed)
	})
}

func TestPressedIn(t *testing.T) {
	eachOfManyFamilies(func(n int, f []int) {
		want := pressedByHand(n, f)
		if got := impl.PressedIn(n, f); got != want {
			t.Errorf("PressedIn(%d, %v) is %v, want %v", n, f, got, want)
		}
		if all, ok := impl.PressAll(n, f); !ok || slices.Equal(all, f) != want {
			t.Errorf("PressAll(%d, %v) is %v, %v", n, f, all, ok)
		}
	})
}

// Each pressing in turn is the only one that changes the family.
func TestPressedInWithOnePressingThatChanges(t *testing.T) {
	for n := 2; n <= impl.PointsMax; n++ {
		full := power(n) - 1
		for p := range n {
			f := where(n, func(s int) bool { return s != full-power(p) })
			if impl.PressedIn(n, f) {
				t.Errorf("PressedIn(%d, %v) holds", n, f)
			}
			all, ok := impl.PressAll(n, f)
			wantList(t, fmt.Sprintf("PressAll(%d, %v)", n, f), all, ok, where(n, func(s int) bool { return s != full }))
		}
	}
}

// The results are worked out by hand.
func TestShiftOfExamples(t *testing.T) {
	for _, x := range []struct {
		what string
		f    []int
		i, k int
		want []int
	}{
		{"a set moves", []int{4}, 2, 0, []int{1}},
		{"two sets move, with other points", []int{6, 12}, 2, 0, []int{3, 9}},
		{"the moved set is there already", []int{1, 4}, 2, 0, []int{1, 4}},
		{"one moved set of two is there already", []int{3, 4, 6}, 2, 0, []int{1, 3, 6}},
		{"one moved set is there, another point is free", []int{1, 4}, 2, 1, []int{1, 2}},
		{"a set without the point", []int{1, 8}, 2, 0, []int{1, 8}},
		{"a set with neither point", []int{0, 2}, 2, 0, []int{0, 2}},
		{"a set with both points", []int{5, 7}, 2, 0, []int{5, 7}},
		{"from a lesser point to a greater one", []int{1, 3}, 0, 2, []int{4, 6}},
		{"so, and the moved set is there already", []int{1, 4}, 0, 2, []int{1, 4}},
		{"so, and one moved set of two is there already", []int{1, 3, 6}, 0, 2, []int{3, 4, 6}},
		{"from a point to itself", []int{0, 4, 6}, 2, 2, []int{0, 4, 6}},
		{"the order of the sets changes", []int{6, 8}, 3, 0, []int{1, 6}},
	} {
		got, ok := impl.ShiftOf(4, x.f, x.i, x.k)
		wantList(t, fmt.Sprintf("%s: ShiftOf(4, %v, %d, %d)", x.what, x.f, x.i, x.k), got, ok, x.want)
	}
}

func TestShiftPressExamples(t *testing.T) {
	for _, x := range []struct {
		what string
		f    []int
		p    int
		want []int
	}{
		{"a point is taken out", []int{6}, 1, []int{4}},
		{"a point is taken out of two sets", []int{3, 6}, 1, []int{1, 4}},
		{"what is left is the empty set", []int{2}, 1, []int{0}},
		{"the set without the point is there already", []int{4, 6}, 1, []int{4, 6}},
		{"the empty set is there already", []int{0, 2}, 1, []int{0, 2}},
		{"one set of two without the point is there already", []int{3, 4, 6}, 1, []int{1, 4, 6}},
		{"a set without the point", []int{0, 5}, 1, []int{0, 5}},
		{"the order of the sets changes", []int{5, 6, 8}, 3, []int{0, 5, 6}},
	} {
		got, ok := impl.ShiftPress(4, x.f, x.p)
		wantList(t, fmt.Sprintf("%s: ShiftPress(4, %v, %d)", x.what, x.f, x.p), got, ok, x.want)
	}
}

// The sets of the first families are moved or pressed more than once. Of the last ones, from that with the sets
// 3, 6 and 9 on, another family is left if the shifts or pressings are taken in other orders.
func TestShiftAllAndPressAllExamples(t *testing.T) {
	for _, x := range []struct {
		name    string
		call    func(n int, f []int) ([]int, bool)
		n       int
		f, want []int
	}{
		{"ShiftAll", impl.ShiftAll, 3, []int{6}, []int{3}},
		{"ShiftAll", impl.ShiftAll, 8, []int{192}, []int{3}},
		{"ShiftAll", impl.ShiftAll, 8, []int{129, 130, 132, 136, 144, 160, 192}, []int{3, 5, 9, 17, 33, 65, 129}},
		{"PressAll", impl.PressAll, 8, []int{255}, []int{0}},
		{"PressAll", impl.PressAll, 8, []int{127, 255}, []int{0, 128}},
		{"ShiftAll", impl.ShiftAll, 4, []int{3, 6, 9}, []int{3, 5, 9}},
		{"ShiftAll", impl.ShiftAll, 4, []int{5, 6, 9}, []int{3, 5, 9}},
		{"ShiftAll", impl.ShiftAll, 4, []int{5, 9, 10}, []int{3, 5, 6}},
		{"ShiftAll", impl.ShiftAll, 6, []int{6, 20, 48}, []int{3, 5, 9}},
		{"PressAll", impl.PressAll, 2, []int{1, 2}, []int{0, 2}},
		{"PressAll", impl.PressAll, 3, []int{3, 5, 6}, []int{0, 2, 4}},
	} {
		got, ok := x.call(x.n, x.f)
		wantList(t, fmt.Sprintf("%s(%d, %v)", x.name, x.n, x.f), got, ok, x.want)
	}
	total, ok := impl.ShiftSum(4, []int{0, 1, 6, 13})
	wantNumber(t, "ShiftSum(4, [0 1 6 13])", total, ok, 0+0+1+2+0+2+3)
}

// checkAllStays expects a family that no shift to a lesser point changes and no pressing.
func checkAllStays(t *testing.T, n int, f []int) {
	t.Helper()
	checkShifted(t, n, f)
	if !impl.PressedIn(n, f) {
		t.Errorf("PressedIn(%d, %v) does not hold", n, f)
	}
	all, ok := impl.PressAll(n, f)
	wantList(t, fmt.Sprintf("PressAll(%d, %v)", n, f), all, ok, f)
	for p := range n {
		pressed, ok := impl.ShiftPress(n, f, p)
		wantList(t, fmt.Sprintf("ShiftPress(%d, %v, %d)", n, f, p), pressed, ok, f)
	}
}

func TestShiftingEdges(t *testing.T) {
	for n := 1; n <= impl.PointsMax; n++ {
		all := where(n, func(s int) bool { return true })
		points := sum(pointsByHand(n, power(n)-1))
		for _, x := range []struct {
			f     []int
			total int
		}{
			{nil, 0},
			{[]int{}, 0},
			{[]int{0}, 0},
			{all, points * power(n) / 2},
		} {
			checkAllStays(t, n, x.f)
			total, ok := impl.ShiftSum(n, x.f)
			wantNumber(t, fmt.Sprintf("ShiftSum(%d, %v)", n, x.f), total, ok, x.total)
			eachTwoPoints(n, func(i, k int) {
				shifted, ok := impl.ShiftOf(n, x.f, i, k)
				wantList(t, fmt.Sprintf("ShiftOf(%d, %v, %d, %d)", n, x.f, i, k), shifted, ok, x.f)
			})
		}
	}
}

// The set of all points can't be moved, but pressed.
func TestShiftingOfTheSetOfAllPoints(t *testing.T) {
	for n := 1; n <= impl.PointsMax; n++ {
		f := []int{power(n) - 1}
		checkShifted(t, n, f)
		total, ok := impl.ShiftSum(n, f)
		wantNumber(t, fmt.Sprintf("ShiftSum(%d, %v)", n, f), total, ok, n*(n-1)/2)
		if impl.PressedIn(n, f) {
			t.Errorf("PressedIn(%d, %v) holds", n, f)
		}
		for p := range n {
			pressed, ok := impl.ShiftPress(n, f, p)
			wantList(t, fmt.Sprintf("ShiftPress(%d, %v, %d)", n, f, p), pressed, ok, []int{power(n) - 1 - power(p)})
		}
		all, ok := impl.PressAll(n, f)
		wantList(t, fmt.Sprintf("PressAll(%d, %v)", n, f), all, ok, []int{0})
	}
}

// shiftCalls has each function that makes a family of a family, with points that are valid for each n.
func shiftCalls() []familyCall {
	return []familyCall{
		{"ShiftOf from 0 to 0", func(n int, f []int) ([]int, bool) { return impl.ShiftOf(n, f, 0, 0) }},
		{"ShiftOf from n-1 to 0", func(n int, f []int) ([]int, bool) { return impl.ShiftOf(n, f, n-1, 0) }},
		{"ShiftOf from 0 to n-1", func(n int, f []int) ([]int, bool) { return impl.ShiftOf(n, f, 0, n-1) }},
		{"ShiftPress at 0", func(n int, f []int) ([]int, bool) { return impl.ShiftPress(n, f, 0) }},
		{"ShiftPress at n-1", func(n int, f []int) ([]int, bool) { return impl.ShiftPress(n, f, n-1) }},
		{"ShiftAll", impl.ShiftAll},
		{"PressAll", impl.PressAll},
	}
}

func TestShiftCallsOthers(t *testing.T) {
	for _, x := range badFamilies() {
		for _, c := range shiftCalls() {
			got, ok := c.call(x.n, x.list)
			wantNoList(t, fmt.Sprintf("%s, for %d points and %v,", c.name, x.n, x.list), got, ok)
		}
		if impl.ShiftedIn(x.n, x.list) || impl.PressedIn(x.n, x.list) {
			t.Errorf("ShiftedIn or PressedIn holds for %d points and %v", x.n, x.list)
		}
		total, ok := impl.ShiftSum(x.n, x.list)
		wantNoNumber(t, fmt.Sprintf("ShiftSum(%d, %v)", x.n, x.list), total, ok)
	}
}

func TestShiftCallsOfNil(t *testing.T) {
	for _, c := range shiftCalls() {
		for n := 1; n <= impl.PointsMax; n++ {
			for _, f := range [][]int{nil, {}} {
				got, ok := c.call(n, f)
				wantList(t, fmt.Sprintf("%s, for %d points and no sets,", c.name, n), got, ok, nil)
			}
		}
	}
}

func wantNoShift(t *testing.T, n int, f []int, i, k int) {
	t.Helper()
	shifted, ok := impl.ShiftOf(n, f, i, k)
	wantNoList(t, fmt.Sprintf("ShiftOf(%d, %v, %d, %d)", n, f, i, k), shifted, ok)
}

func wantNoPress(t *testing.T, n int, f []int, p int) {
	t.Helper()
	pressed, ok := impl.ShiftPress(n, f, p)
	wantNoList(t, fmt.Sprintf("ShiftPress(%d, %v, %d)", n, f, p), pressed, ok)
}

func TestShiftOfAndShiftPressOfNoPoint(t *testing.T) {
	for n := 1; n <= impl.PointsMax; n++ {
		all := where(n, func(s int) bool { return true })
		for _, f := range [][]int{nil, {}, {0}, {1}, all, {1, 0}, {-1}} {
			for _, bad := range badPoints(n) {
				for p := range n {
					wantNoShift(t, n, f, bad, p)
					wantNoShift(t, n, f, p, bad)
				}
				wantNoShift(t, n, f, bad, bad)
				wantNoPress(t, n, f, bad)
			}
		}
	}
	for _, n := range badCounts {
		for _, p := range []int{math.MinInt, -1, 0, 1, n - 1, n} {
			for _, f := range [][]int{nil, {0}, {1}} {
				wantNoShift(t, n, f, p, p)
				wantNoShift(t, n, f, p, 0)
				wantNoShift(t, n, f, 0, p)
				wantNoPress(t, n, f, p)
			}
		}
	}
}

func TestShiftedFamiliesAreNewMemory(t *testing.T) {
	for _, c := range shiftCalls() {
		eachFamily(func(n int, f []int) { checkNewMemory(t, c, n, f) })
	}
}

func TestShiftedInPressedInAndShiftSumLeaveTheirArguments(t *testing.T) {
	eachFamily(func(n int, f []int) {
		given := append(slices.Clone(f), 0, 1, 0, 1)
		before := slices.Clone(given)
		impl.ShiftedIn(n, given[:len(f)])
		impl.PressedIn(n, given[:len(f)])
		impl.ShiftSum(n, given[:len(f)])
		if !slices.Equal(given, before) {
			t.Errorf("the list %v of %d points was changed to %v", before, n, given)
		}
	})
}

// shiftAnswers tells what each function of the chapter makes of a family.
func shiftAnswers(n int, f []int) []string {
	var out []string
	for _, c := range shiftCalls() {
		list, ok := c.call(n, f)
		out = append(out, fmt.Sprint(list, ok))
	}
	total, ok := impl.ShiftSum(n, f)
	return append(out, fmt.Sprint(total, ok, impl.ShiftedIn(n, f), impl.PressedIn(n, f)))
}

func TestShiftingKeepsNoState(t *testing.T) {
	checkNoState(t, shiftAnswers)
}
