package tests

import (
	"fmt"
	"math"
	"runtime"
	"slices"
	"testing"
	"testing/synctest"

	"loop.example/setshadows/impl"
)

// halvesByHand parts a family into the sets that have a point and those that have not.
func halvesByHand(f []int, p int) ([]int, []int) {
	var with, rest []int
	for _, s := range f {
		if s>>p&1 == 1 {
			with = append(with, s)
		} else {
			rest = append(rest, s)
		}
	}
	return with, rest
}

// shattersByHand asks of both halves at a point whether they have all parts of the other points.
func shattersByHand(f, points []int) bool {
	if len(points) == 0 {
		return len(f) > 0
	}
	with, rest := halvesByHand(f, points[0])
	return shattersByHand(with, points[1:]) && shattersByHand(rest, points[1:])
}

// tracesByHand adds, point for point, what both halves have.
func tracesByHand(f, points []int) int {
	if len(f) == 0 {
		return 0
	}
	if len(points) == 0 {
		return 1
	}
	with, rest := halvesByHand(f, points[0])
	return tracesByHand(with, points[1:]) + tracesByHand(rest, points[1:])
}

func shatteredByHand(n int, f []int) []int {
	return where(n, func(s int) bool { return shattersByHand(f, pointsByHand(n, s)) })
}

// dimensionByHand is the greatest size of some sets, or -1.
func dimensionByHand(n int, shattered []int) int {
	dimension := -1
	for _, s := range shattered {
		dimension = max(dimension, len(pointsByHand(n, s)))
	}
	return dimension
}

func boundByHand(n, d int) int {
	return sum(triangle(n)[n][:d+1])
}

func mostByHand(n, d int) []int {
	return where(n, func(s int) bool { return len(pointsByHand(n, s)) <= d })
}

func countByHand(n int, f []int, k int) int {
	most := 0
	for _, s := range levelByHand(n, k) {
		most = max(most, tracesByHand(f, pointsByHand(n, s)))
	}
	return most
}

// tellByHand lists the sets of n points that have a point of each difference between two sets of a family.
func tellByHand(n int, f []int) []int {
	var differences [256]bool
	for i, a := range f {
		for _, b := range f[:i] {
			differences[a^b] = true
		}
	}
	return where(n, func(s int) bool {
		for d, is := range differences {
			if is && d&s == 0 {
				return false
			}
		}
		return true
	})
}

// tellsByHand returns the first set that has the fewest points of those that tell.
func tellsByHand(n int, f []int) int {
	return slices.MinFunc(tellByHand(n, f), func(a, b int) int {
		return len(pointsByHand(n, a)) - len(pointsByHand(n, b))
	})
}

// pointByHand returns the first point by which alone no two sets of a family differ.
func pointByHand(n int, f []int) int {
	in := members(f)
	for p := range n {
		with, _ := halvesByHand(f, p)
		if !slices.ContainsFunc(with, func(s int) bool { return in[s-power(p)] }) {
			return p
		}
	}
	return -1
}

// tracedFamilies has families that are near to shattering a set or shatter just this: all sets up to a size, without
// one or with one more, and all sets that have a certain part outside of a set or in it, or that have it not.
func tracedFamilies(n int) [][]int {
	var out [][]int
	for d := 0; d <= n; d++ {
		most := mostByHand(n, d)
		out = append(out, most, most[1:], most[:len(most)-1])
		if d < n {
			out = append(out, sortedUnion(most, levelByHand(n, d+1)[:1]))
		}
	}
	for seed := range 6 {
		s := int(mixed(seed, n)) % power(n)
		part := int(mixed(seed, n+1)) % power(n)
		out = append(out,
			where(n, func(x int) bool { return x&^s == part&^s }),
			where(n, func(x int) bool { return x&^s != part&^s }),
			where(n, func(x int) bool { return x&s != part&s }))
	}
	return out
}

// eachTracedFamily calls a check for families of few sets and of many, and for those of tracedFamilies.
func eachTracedFamily(check func(n int, f []int)) {
	eachOfManyFamilies(check)
	for n := 1; n <= impl.PointsMax; n++ {
		for _, f := range tracedFamilies(n) {
			check(n, f)
		}
	}
	for n := 5; n <= impl.PointsMax; n++ {
		for i, f := range smallFamilies(n) {
			// All of them would take long; these still have each number of sets and each kind of families.
			if i%7 == 0 {
				check(n, f)
			}
		}
	}
}

// eachFamilyForTraces has all families of four points too.
func eachFamilyForTraces(check func(n int, f []int)) {
	eachTracedFamily(check)
	eachFamilyOfFourPoints(func(f []int) { check(4, f) })
}

func TestPromise63ShiftPress(t *testing.T) {
	eachTracedFamily(func(n int, f []int) {
		shattered, _ := impl.TraceAll(n, f)
		for p := range n {
			pressed, ok := impl.ShiftPress(n, f, p)
			wantList(t, fmt.Sprintf("ShiftPress(%d, %v, %d)", n, f, p), pressed, ok, pressByHand(n, f, p))
			if len(pressed) != len(f) {
				t.Errorf("ShiftPress(%d, %v, %d) has %d sets", n, f, p, len(pressed))
			}
			more, ok := impl.ShiftPress(n, pressed, p)
			wantList(t, fmt.Sprintf("ShiftPress(%d, %v, %d)", n, pressed, p), more, ok, pressed)
			after, ok := impl.TraceAll(n, pressed)
			if !ok || !isPart(after, shattered) {
				t.Errorf("ShiftPress(%d, %v, %d) shatters %v, the family %v", n, f, p, after, shattered)
			}
		}
	})
}

func checkShatters(t *testing.T, n int, f []int, s int) {
	t.Helper()
	want := shattersByHand(f, pointsByHand(n, s))
	if got := impl.TraceShatters(n, f, s); got != want {
		t.Errorf("TraceShatters(%d, %v, %d) is %v, want %v", n, f, s, got, want)
	}
	if !want {
		return
	}
	if points := pointsByHand(n, s); len(points) > 0 && !impl.TraceShatters(n, f, s-power(points[0])) {
		t.Errorf("TraceShatters(%d, %v, %d) holds, but not without the lowest point", n, f, s)
	}
	other, _ := impl.FamilyOther(n, f)
	if !impl.TraceShatters(n, other, s) {
		t.Errorf("TraceShatters(%d, %v, %d) holds, but not for FamilyOther", n, f, s)
	}
}

func TestPromise64TraceShatters(t *testing.T) {
	eachTracedFamily(func(n int, f []int) {
		// All sets where there are few; otherwise some of them, others for each family.
		step := max(1, power(n)/16)
		for s := len(f) % step; s < power(n); s += step {
			checkShatters(t, n, f, s)
		}
	})
	for n := 1; n <= impl.PointsMax; n++ {
		for _, f := range append(families(n), tracedFamilies(n)...) {
			for s := range power(n) {
				checkShatters(t, n, f, s)
			}
		}
	}
}

// The family has no more sets than it shatters, and what it shatters in order it shatters.
func TestTraceAll(t *testing.T) {
	eachFamilyForTraces(func(n int, f []int) {
		all, ok := impl.TraceAll(n, f)
		wantList(t, fmt.Sprintf("TraceAll(%d, %v)", n, f), all, ok, shatteredByHand(n, f))
		if len(all) < len(f) {
			t.Errorf("TraceAll(%d, %v) has %d sets", n, f, len(all))
		}
		inOrder, _ := impl.PressAll(n, f)
		if !isPart(inOrder, all) {
			t.Errorf("TraceAll(%d, %v) is %v, PressAll is %v", n, f, all, inOrder)
		}
	})
}

func TestPromise65TraceDimension(t *testing.T) {
	eachFamilyForTraces(func(n int, f []int) {
		dimension, ok := impl.TraceDimension(n, f)
		wantNumber(t, fmt.Sprintf("TraceDimension(%d, %v)", n, f), dimension, ok, dimensionByHand(n, shatteredByHand(n, f)))
		if bound, ok := impl.TraceBound(n, dimension); !ok || len(f) > bound {
			t.Errorf("TraceDimension(%d, %v) is %d, and TraceBound of it %d, %v", n, f, dimension, bound, ok)
		}
		other, _ := impl.FamilyOther(n, f)
		ofOther, ok := impl.TraceDimension(n, other)
		wantNumber(t, fmt.Sprintf("TraceDimension(%d, %v)", n, other), ofOther, ok, dimension)
	})
}

func TestPromise66TraceBound(t *testing.T) {
	for n := 1; n <= impl.PointsMax; n++ {
		for d := -1; d <= n; d++ {
			bound, ok := impl.TraceBound(n, d)
			wantNumber(t, fmt.Sprintf("TraceBound(%d, %d)", n, d), bound, ok, boundByHand(n, d))
			most, ok := impl.TraceMost(n, d)
			if !ok || len(most) != bound {
				t.Errorf("TraceMost(%d, %d) has %d sets, %v, TraceBound is %d", n, d, len(most), ok, bound)
			}
		}
	}
}

// One set more, whichever it is, makes the dimension greater.
func TestPromise67TraceMost(t *testing.T) {
	for n := 1; n <= impl.PointsMax; n++ {
		for d := -1; d <= n; d++ {
			most, ok := impl.TraceMost(n, d)
			wantList(t, fmt.Sprintf("TraceMost(%d, %d)", n, d), most, ok, mostByHand(n, d))
			dimension, ok := impl.TraceDimension(n, most)
			wantNumber(t, fmt.Sprintf("TraceDimension(%d, %v)", n, most), dimension, ok, d)
			if !impl.PressedIn(n, most) {
				t.Errorf("TraceMost(%d, %d) is %v, which is not pressed", n, d, most)
			}
			for _, s := range without(where(n, func(int) bool { return true }), most) {
				more := sortedUnion(most, []int{s})
				if dimension, ok := impl.TraceDimension(n, more); !ok || dimension <= d {
					t.Errorf("TraceDimension(%d, %v) is %d, %v", n, more, dimension, ok)
				}
			}
		}
	}
}

func checkTraceCounts(t *testing.T, n int, f []int) {
	t.Helper()
	dimension, _ := impl.TraceDimension(n, f)
	before := 0
	for k := range n + 1 {
		count, ok := impl.TraceCount(n, f, k)
		wantNumber(t, fmt.Sprintf("TraceCount(%d, %v, %d)", n, f, k), count, ok, countByHand(n, f, k))
		if count > power(k) || count > len(f) || count < before {
			t.Errorf("TraceCount(%d, %v, %d) is %d, for one point less it is %d", n, f, k, count, before)
		}
		if (count == power(k)) != (dimension >= k) {
			t.Errorf("TraceCount(%d, %v, %d) is %d, the dimension %d", n, f, k, count, dimension)
		}
		before = count
	}
}

func TestPromise68TraceCount(t *testing.T) {
	eachFamilyForTraces(func(n int, f []int) { checkTraceCounts(t, n, f) })
}

func TestPromise69TraceTells(t *testing.T) {
	eachFamilyForTraces(func(n int, f []int) {
		s, ok := impl.TraceTells(n, f)
		wantNumber(t, fmt.Sprintf("TraceTells(%d, %v)", n, f), s, ok, tellsByHand(n, f))
		trace, ok := impl.FamilyTrace(n, f, s)
		if !ok || len(trace) != len(f) {
			t.Errorf("TraceTells(%d, %v) is %d, on which the trace has %d sets", n, f, s, len(trace))
		}
		if size := len(pointsByHand(n, s)); len(f) > 0 && size >= len(f) {
			t.Errorf("TraceTells(%d, %v) is %d, with %d points", n, f, s, size)
		}
	})
}

func TestPromise70TracePoint(t *testing.T) {
	eachFamilyForTraces(func(n int, f []int) {
		p, ok := impl.TracePoint(n, f)
		wantNumber(t, fmt.Sprintf("TracePoint(%d, %v)", n, f), p, ok, pointByHand(n, f))
		if p < 0 && len(f) <= n {
			t.Errorf("TracePoint(%d, %v) is %d for %d sets", n, f, p, len(f))
		}
		if p < 0 {
			return
		}
		trace, ok := impl.FamilyTrace(n, f, power(n)-1-power(p))
		if !ok || len(trace) != len(f) {
			t.Errorf("TracePoint(%d, %v) is %d, without which the trace has %d sets", n, f, p, len(trace))
		}
	})
}

type traceCase struct {
	what         string
	n            int
	f, shattered []int
	dimension    int
	// For each size from 0 on, the number of TraceCount.
	counts       []int
	tells, point int
}

func checkTraceCase(t *testing.T, x traceCase) {
	t.Helper()
	all, ok := impl.TraceAll(x.n, x.f)
	wantList(t, fmt.Sprintf("%s: TraceAll(%d, %v)", x.what, x.n, x.f), all, ok, x.shattered)
	in := members(x.shattered)
	for s := range power(x.n) {
		if got := impl.TraceShatters(x.n, x.f, s); got != in[s] {
			t.Errorf("%s: TraceShatters(%d, %v, %d) is %v", x.what, x.n, x.f, s, got)
		}
	}
	dimension, ok := impl.TraceDimension(x.n, x.f)
	wantNumber(t, fmt.Sprintf("%s: TraceDimension(%d, %v)", x.what, x.n, x.f), dimension, ok, x.dimension)
	for k, want := range x.counts {
		count, ok := impl.TraceCount(x.n, x.f, k)
		wantNumber(t, fmt.Sprintf("%s: TraceCount(%d, %v, %d)", x.what, x.n, x.f, k), count, ok, want)
	}
	tells, ok := impl.TraceTells(x.n, x.f)
	wantNumber(t, fmt.Sprintf("%s: TraceTells(%d, %v)", x.what, x.n, x.f), tells, ok, x.tells)
	point, ok := impl.TracePoint(x.n, x.f)
	wantNumber(t, fmt.Sprintf("%s: TracePoint(%d, %v)", x.what, x.n, x.f), point, ok, x.point)
}

// The results are worked out by hand.
func TestTraceExamples(t *testing.T) {
	for _, x := range []traceCase{
		{"two sets that differ in one point", 3, []int{0, 4}, []int{0, 4}, 1, []int{1, 2, 2, 2}, 4, 0},
		{"two sets that differ in the least point", 3, []int{6, 7}, []int{0, 1}, 1, []int{1, 2, 2, 2}, 1, 1},
		{"two sets that differ in all points", 3, []int{0, 7}, []int{0, 1, 2, 4}, 1, []int{1, 2, 2, 2}, 1, 0},
		{"sets of one point", 3, []int{1, 2, 4}, []int{0, 1, 2, 4}, 1, []int{1, 2, 3, 3}, 3, 0},
		{"so, and the empty set", 3, []int{0, 1, 2, 4}, []int{0, 1, 2, 4}, 1, []int{1, 2, 3, 4}, 7, -1},
		{"one point more from set to set", 3, []int{0, 1, 3, 7}, []int{0, 1, 2, 4}, 1, []int{1, 2, 3, 4}, 7, -1},
		{"all parts of two points", 3, []int{0, 1, 2, 3}, []int{0, 1, 2, 3}, 2, []int{1, 2, 4, 4}, 3, 2},
		{"all parts of two points, with the third one", 3, []int{4, 5, 6, 7}, []int{0, 1, 2, 3}, 2, []int{1, 2, 4, 4}, 3, 2},
		{"two pairs of points tell", 3, []int{0, 1, 6, 7}, []int{0, 1, 2, 3, 4, 5}, 2, []int{1, 2, 4, 4}, 3, 1},
		{"all pairs of points tell", 3, []int{0, 3, 5, 6}, []int{0, 1, 2, 3, 4, 5, 6}, 2, []int{1, 2, 4, 4}, 3, 0},
		{"three pairs of points tell, the first ones do not", 4, []int{0, 7, 8, 15}, []int{0, 1, 2, 4, 8, 9, 10, 12}, 2, []int{1, 2, 4, 4, 4}, 9, 0},
		{"sets of two points", 4, []int{3, 5, 6, 9, 10, 12}, []int{0, 1, 2, 3, 4, 5, 6, 8, 9, 10, 12}, 2, []int{1, 2, 4, 6, 6}, 7, 0},
		{"all sets but the empty one", 2, []int{1, 2, 3}, []int{0, 1, 2}, 1, []int{1, 2, 3}, 3, -1},
		{"two sets of one point", 2, []int{1, 2}, []int{0, 1, 2}, 1, []int{1, 2, 2}, 1, 0},
	} {
		checkTraceCase(t, x)
	}
}

// Of three points 0, 2 and 3 the number is 13, of 0, 1 and 4 it is 19: both tell, and the least number is asked for,
// though the points of the other one come first.
func TestTraceTellsIsTheLeastNumber(t *testing.T) {
	for _, f := range [][]int{{0, 1, 6, 21, 24}, {0, 1, 10, 25, 30}} {
		for _, s := range []int{13, 19} {
			if trace, ok := impl.FamilyTrace(5, f, s); !ok || len(trace) != 5 {
				t.Errorf("FamilyTrace(5, %v, %d) is %v, %v", f, s, trace, ok)
			}
		}
		s, ok := impl.TraceTells(5, f)
		wantNumber(t, fmt.Sprintf("TraceTells(5, %v)", f), s, ok, 13)
	}
}

// A set of fewer points tells, though its number is greater.
func TestTraceTellsHasTheFewestPoints(t *testing.T) {
	for n := 3; n <= impl.PointsMax; n++ {
		top := power(n - 1)
		f := []int{0, top, top + 3}
		s, ok := impl.TraceTells(n, f)
		wantNumber(t, fmt.Sprintf("TraceTells(%d, %v)", n, f), s, ok, 1+top)
		f = []int{0, top}
		s, ok = impl.TraceTells(n, f)
		wantNumber(t, fmt.Sprintf("TraceTells(%d, %v)", n, f), s, ok, top)
	}
}

func TestTracesOfTheEmptyFamily(t *testing.T) {
	for n := 1; n <= impl.PointsMax; n++ {
		for _, f := range [][]int{nil, {}} {
			checkTraceCase(t, traceCase{"no set", n, f, nil, -1, make([]int, n+1), 0, 0})
		}
	}
}

func TestTracesOfOneSet(t *testing.T) {
	eachSet(func(n, s int) {
		ones := slices.Repeat([]int{1}, n+1)
		checkTraceCase(t, traceCase{"one set", n, []int{s}, []int{0}, 0, ones, 0, 0})
	})
}

// All parts of each set are there, so no point can be left out.
func TestTracesOfAllSets(t *testing.T) {
	for n := 1; n <= impl.PointsMax; n++ {
		all := where(n, func(int) bool { return true })
		var counts []int
		for k := range n + 1 {
			counts = append(counts, power(k))
		}
		checkTraceCase(t, traceCase{"all sets", n, all, all, n, counts, power(n) - 1, -1})
	}
}

// All sets but one: the set of all points is shattered no more, but all others are.
func TestTracesOfAllSetsButOne(t *testing.T) {
	eachSet(func(n, s int) {
		f := where(n, func(x int) bool { return x != s })
		if impl.TraceShatters(n, f, power(n)-1) {
			t.Errorf("TraceShatters(%d, %v, %d) holds", n, f, power(n)-1)
		}
		dimension, ok := impl.TraceDimension(n, f)
		wantNumber(t, fmt.Sprintf("TraceDimension(%d, %v)", n, f), dimension, ok, n-1)
		all, ok := impl.TraceAll(n, f)
		wantList(t, fmt.Sprintf("TraceAll(%d, %v)", n, f), all, ok, where(n, func(x int) bool { return x < power(n)-1 }))
	})
}

// Only sets that have all points of a set tell all parts of it, and the parts are what is shattered.
func TestTracesOfAllPartsOfASet(t *testing.T) {
	eachSet(func(n, s int) {
		parts := closedDownByHand(n, []int{s})
		all, ok := impl.TraceAll(n, parts)
		wantList(t, fmt.Sprintf("TraceAll(%d, %v)", n, parts), all, ok, parts)
		size := len(pointsByHand(n, s))
		dimension, ok := impl.TraceDimension(n, parts)
		wantNumber(t, fmt.Sprintf("TraceDimension(%d, %v)", n, parts), dimension, ok, size)
		tells, ok := impl.TraceTells(n, parts)
		wantNumber(t, fmt.Sprintf("TraceTells(%d, %v)", n, parts), tells, ok, s)
		wantPoint := -1
		if others := pointsByHand(n, power(n)-1-s); len(others) > 0 {
			wantPoint = others[0]
		}
		point, ok := impl.TracePoint(n, parts)
		wantNumber(t, fmt.Sprintf("TracePoint(%d, %v)", n, parts), point, ok, wantPoint)
		for k := range n + 1 {
			count, ok := impl.TraceCount(n, parts, k)
			wantNumber(t, fmt.Sprintf("TraceCount(%d, %v, %d)", n, parts, k), count, ok, power(min(k, size)))
		}
	})
}

// With n + 1 sets there need not be a point: one more point from set to set, or each point alone and none.
func TestTracePointOfOneSetMoreThanPoints(t *testing.T) {
	for n := 1; n <= impl.PointsMax; n++ {
		for _, f := range [][]int{sortedUnion([]int{0}, levelByHand(n, 1)), sortedUnion(chainFrom(n, 0)), sortedUnion(chainFrom(n, n-1))} {
			point, ok := impl.TracePoint(n, f)
			wantNumber(t, fmt.Sprintf("TracePoint(%d, %v)", n, f), point, ok, -1)
			for i := range f {
				fewer := slices.Delete(slices.Clone(f), i, i+1)
				if point, ok := impl.TracePoint(n, fewer); !ok || point < 0 {
					t.Errorf("TracePoint(%d, %v) is %d, %v", n, fewer, point, ok)
				}
			}
		}
	}
}

// Sets of one size never differ in one point alone, so the first point is not needed, however many they are.
func TestTracePointOfSetsOfOneSize(t *testing.T) {
	for n := 1; n <= impl.PointsMax; n++ {
		for k := range n + 1 {
			f := levelByHand(n, k)
			point, ok := impl.TracePoint(n, f)
			wantNumber(t, fmt.Sprintf("TracePoint(%d, %v)", n, f), point, ok, 0)
		}
	}
}

func TestTraceBoundAndTraceMostEdges(t *testing.T) {
	for n := 1; n <= impl.PointsMax; n++ {
		for _, x := range []struct {
			d    int
			most []int
		}{
			{-1, nil},
			{0, []int{0}},
			{1, sortedUnion([]int{0}, levelByHand(n, 1))},
			{n - 1, where(n, func(s int) bool { return s < power(n)-1 })},
			{n, where(n, func(int) bool { return true })},
		} {
			most, ok := impl.TraceMost(n, x.d)
			wantList(t, fmt.Sprintf("TraceMost(%d, %d)", n, x.d), most, ok, x.most)
			bound, ok := impl.TraceBound(n, x.d)
			wantNumber(t, fmt.Sprintf("TraceBound(%d, %d)", n, x.d), bound, ok, len(x.most))
		}
	}
	for i, want := range []int{0, 1, 9, 37, 93, 163, 219, 247, 255, 256} {
		bound, ok := impl.TraceBound(8, i-1)
		wantNumber(t, fmt.Sprintf("TraceBound(8, %d)", i-1), bound, ok, want)
	}
	most, ok := impl.TraceMost(4, 2)
	wantList(t, "TraceMost(4, 2)", most, ok, []int{0, 1, 2, 3, 4, 5, 6, 8, 9, 10, 12})
}

// Sets of at most d points shatter themselves, and on k points have as many traces as there are sets of at most d of
// k points, also for k beyond d. If there are sets of one point, all points are needed.
func TestTracesOfTraceMost(t *testing.T) {
	for n := 1; n <= impl.PointsMax; n++ {
		for d := -1; d <= n; d++ {
			most := mostByHand(n, d)
			var counts []int
			for k := range n + 1 {
				counts = append(counts, boundByHand(k, min(k, d)))
			}
			tells, point := 0, 0
			if d > 0 {
				tells, point = power(n)-1, -1
			}
			checkTraceCase(t, traceCase{"TraceMost", n, most, most, d, counts, tells, point})
		}
	}
}

type numberCall struct {
	name string
	call func(n int, f []int) (int, bool)
}

// traceNumbers has each function that makes a number of a family, with sizes that are valid for each n.
func traceNumbers() []numberCall {
	return []numberCall{
		{"TraceDimension", impl.TraceDimension},
		{"TraceCount of 0", func(n int, f []int) (int, bool) { return impl.TraceCount(n, f, 0) }},
		{"TraceCount of 1", func(n int, f []int) (int, bool) { return impl.TraceCount(n, f, 1) }},
		{"TraceCount of n", func(n int, f []int) (int, bool) { return impl.TraceCount(n, f, n) }},
		{"TraceTells", impl.TraceTells},
		{"TracePoint", impl.TracePoint},
	}
}

func TestTraceCallsOthers(t *testing.T) {
	for _, x := range badFamilies() {
		for _, s := range []int{-1, 0, 1, 2, power(max(1, min(x.n, 9))) - 1} {
			if impl.TraceShatters(x.n, x.list, s) {
				t.Errorf("TraceShatters(%d, %v, %d) holds", x.n, x.list, s)
			}
		}
		all, ok := impl.TraceAll(x.n, x.list)
		wantNoList(t, fmt.Sprintf("TraceAll(%d, %v)", x.n, x.list), all, ok)
		for _, c := range traceNumbers() {
			got, ok := c.call(x.n, x.list)
			wantNoNumber(t, fmt.Sprintf("%s, for %d points and %v,", c.name, x.n, x.list), got, ok)
		}
	}
}

func TestTraceShattersOfNoSet(t *testing.T) {
	for _, x := range badSets() {
		n := max(1, min(x.n, impl.PointsMax))
		for _, f := range [][]int{nil, {}, {0}, {0, 1}, {1, 0}, where(n, func(int) bool { return true })} {
			if impl.TraceShatters(x.n, f, x.s) {
				t.Errorf("TraceShatters(%d, %v, %d) holds", x.n, f, x.s)
			}
		}
	}
}

func TestTraceCountOfNoSize(t *testing.T) {
	for n := 1; n <= impl.PointsMax; n++ {
		for _, f := range [][]int{nil, {}, {0}, {1}, where(n, func(int) bool { return true }), {1, 0}} {
			for _, k := range []int{math.MinInt, -n, -1, n + 1, n + 2, 9, 64, 1 << 32, 1<<32 + 1, math.MaxInt} {
				count, ok := impl.TraceCount(n, f, k)
				wantNoNumber(t, fmt.Sprintf("TraceCount(%d, %v, %d)", n, f, k), count, ok)
			}
		}
	}
	for _, n := range badCounts {
		for _, k := range []int{math.MinInt, -1, 0, 1, n - 1, n, math.MaxInt} {
			for _, f := range [][]int{nil, {0}} {
				count, ok := impl.TraceCount(n, f, k)
				wantNoNumber(t, fmt.Sprintf("TraceCount(%d, %v, %d)", n, f, k), count, ok)
			}
		}
	}
}

func wantNoBound(t *testing.T, n, d int) {
	t.Helper()
	bound, ok := impl.TraceBound(n, d)
	wantNoNumber(t, fmt.Sprintf("TraceBound(%d, %d)", n, d), bound, ok)
	most, ok := impl.TraceMost(n, d)
	wantNoList(t, fmt.Sprintf("TraceMost(%d, %d)", n, d), most, ok)
}

func TestTraceBoundAndTraceMostOthers(t *testing.T) {
	for n := 1; n <= impl.PointsMax; n++ {
		for _, d := range []int{math.MinInt, -n - 2, -3, -2, n + 1, n + 2, 9, 64, 1 << 32, 1<<32 + 1, math.MaxInt} {
			wantNoBound(t, n, d)
		}
	}
	for _, n := range badCounts {
		for _, d := range []int{math.MinInt, -2, -1, 0, 1, 8, n - 1, n, math.MaxInt} {
			wantNoBound(t, n, d)
		}
	}
}

func TestTracesAreNewMemory(t *testing.T) {
	eachFamily(func(n int, f []int) { checkNewMemory(t, familyCall{"TraceAll", impl.TraceAll}, n, f) })
	for n := 1; n <= impl.PointsMax; n++ {
		for d := -1; d <= n; d++ {
			call := func(n int, f []int) ([]int, bool) { return impl.TraceMost(n, d) }
			checkNewMemory(t, familyCall{fmt.Sprintf("TraceMost for %d", d), call}, n, nil)
		}
	}
}

func TestTraceCallsLeaveTheirArguments(t *testing.T) {
	eachFamily(func(n int, f []int) {
		given := append(slices.Clone(f), 0, 1, 0, 1)
		before := slices.Clone(given)
		impl.TraceShatters(n, given[:len(f)], power(n)-1)
		for _, c := range traceNumbers() {
			c.call(n, given[:len(f)])
		}
		if !slices.Equal(given, before) {
			t.Errorf("the list %v of %d points was changed to %v", before, n, given)
		}
	})
}

// traceAnswers tells what each function of the chapter makes of a family, and of the numbers that its length names.
func traceAnswers(n int, f []int) []string {
	all, allOk := impl.TraceAll(n, f)
	out := []string{fmt.Sprint(all, allOk)}
	for _, c := range traceNumbers() {
		number, ok := c.call(n, f)
		out = append(out, fmt.Sprint(c.name, number, ok))
	}
	m := len(f)
	bound, boundOk := impl.TraceBound(n, m)
	most, mostOk := impl.TraceMost(n, m)
	count, countOk := impl.TraceCount(n, f, m)
	return append(out, fmt.Sprint(bound, boundOk, most, mostOk, count, countOk, impl.TraceShatters(n, f, 0),
		impl.TraceShatters(n, f, m), impl.TraceShatters(n, f, 1)))
}

func TestTracesKeepNoState(t *testing.T) {
	checkNoState(t, traceAnswers)
}

// Several callers at the same time get the answers that one gets.
func TestTracesForSeveralCallers(t *testing.T) {
	f := scatteredFamilies(7, 1)[3]
	want := traceAnswers(7, f)
	answers := make(chan []string)
	for range 8 {
		go func() { answers <- traceAnswers(7, f) }()
	}
	for range 8 {
		if got := <-answers; !slices.Equal(got, want) {
			t.Errorf("several callers get %v, one gets %v", got, want)
		}
	}
}

// No goroutine is left behind a call: those of this test's bubble are all counted, and one that is stuck would not
// let the bubble end.
func TestTracesLeaveNoGoroutine(t *testing.T) {
	asked := badFamilies()
	for n := 1; n <= impl.PointsMax; n++ {
		for _, f := range [][]int{nil, {0}, levelByHand(n, n/2), where(n, func(int) bool { return true })} {
			asked = append(asked, numberedList{n, f})
		}
	}
	synctest.Test(t, func(t *testing.T) {
		before := runtime.NumGoroutine()
		for _, x := range asked {
			traceAnswers(x.n, x.list)
			synctest.Wait()
			if after := runtime.NumGoroutine(); after != before {
				t.Errorf("for %d points and %v there are %d goroutines, ahead of it %d", x.n, x.list, after, before)
			}
		}
	})
}
