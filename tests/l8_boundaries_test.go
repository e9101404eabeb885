package tests

import (
	"fmt"
	"math"
	"slices"
	"strconv"
	"strings"
	"testing"

	"loop.example/setshadows/impl"
)

// flippedByHand puts a point into a set or takes it out.
func flippedByHand(s, p int) int {
	if s/power(p)%2 == 1 {
		return s - power(p)
	}
	return s + power(p)
}

// boundaryByHand lists the sets outside of a family that become one of it by one point.
func boundaryByHand(n int, f []int) []int {
	in := members(f)
	return where(n, func(s int) bool {
		for p := range n {
			if !in[s] && in[flippedByHand(s, p)] {
				return true
			}
		}
		return false
	})
}

// edgesByHand goes through all pairs of neighbours and counts those of which one set is in a family, and those of
// which both are.
func edgesByHand(n int, f []int) (edges, inner int) {
	in := members(f)
	for p := range n {
		for s := range power(n) {
			with := s + power(p)
			switch {
			case s/power(p)%2 == 1:
			case in[s] && in[with]:
				inner++
			case in[s] || in[with]:
				edges++
			}
		}
	}
	return edges, inner
}

// ballsByHand has the balls of a set for all radiuses from 0 on: each has one point more that may differ.
func ballsByHand(n, s int) [][]int {
	balls := [][]int{{s}}
	for range n {
		last := balls[len(balls)-1]
		balls = append(balls, sortedUnion(last, boundaryByHand(n, last)))
	}
	return balls
}

// listsOfPoints has all ascending lists of k points from a point on, in the order in which they begin with the least ones.
func listsOfPoints(n, k, from int) [][]int {
	if k == 0 {
		return [][]int{nil}
	}
	var lists [][]int
	for p := from; p < n; p++ {
		for _, behind := range listsOfPoints(n, k-1, p+1) {
			lists = append(lists, append([]int{p}, behind...))
		}
	}
	return lists
}

func ballOrderByHand(n int) []int {
	var order []int
	for k := 0; k <= n; k++ {
		for _, points := range listsOfPoints(n, k, 0) {
			s := 0
			for _, p := range points {
				s += power(p)
			}
			order = append(order, s)
		}
	}
	return order
}

func firstByHand(order []int, m int) []int {
	first := slices.Clone(order[:m])
	slices.Sort(first)
	return first
}

func digitsByHand(m int) int {
	digits := 0
	for x := range m {
		digits += strings.Count(strconv.FormatInt(int64(x), 2), "1")
	}
	return digits
}

// distanceByHand asks for each distance from 1 on whether two sets have it; it expects two sets.
func distanceByHand(n int, f []int) int {
	var differences [256]bool
	for i, a := range f {
		for _, b := range f[:i] {
			differences[a^b] = true
		}
	}
	for d := 1; ; d++ {
		if slices.ContainsFunc(levelByHand(n, d), func(s int) bool { return differences[s] }) {
			return d
		}
	}
}

func allByHand(n int) []int {
	return where(n, func(int) bool { return true })
}

// farSets takes sets in an order, each if it has at least a distance from those that are taken.
func farSets(order []int, distance int) []int {
	var f []int
	for _, s := range order {
		near := func(x int) bool { return onesIn(uint32(s^x)) < distance }
		if !slices.ContainsFunc(f, near) {
			f = append(f, s)
		}
	}
	slices.Sort(f)
	return f
}

// boundedFamilies has families of few edges and of many: balls, the first sets of both orders, without a set or with
// one more, all sets that have a certain part, and sets far from each other.
func boundedFamilies(n int) [][]int {
	var out [][]int
	order := ballOrderByHand(n)
	for m := 0; m <= power(n); m += 1 + m/5 {
		out = append(out, firstByHand(order, m), where(n, func(s int) bool { return s < m }))
	}
	for seed := range 6 {
		s := int(mixed(seed, n)) % power(n)
		part := int(mixed(seed, n+1)) % power(n)
		for _, ball := range ballsByHand(n, s) {
			out = append(out, ball, sortedUnion(ball, []int{part}), without(ball, []int{part}), without(ball, []int{s}))
		}
		out = append(out,
			where(n, func(x int) bool { return x&^s == part&^s }),
			where(n, func(x int) bool { return x&^s != part&^s }))
		for d := 2; d <= n; d++ {
			out = append(out, farSets(allInDisorder(n, seed), d))
		}
	}
	for d := 2; d <= n; d++ {
		out = append(out, farSets(allByHand(n), d))
	}
	return out
}

// eachBoundedFamily calls a check for all families of up to four points, and for many of more.
func eachBoundedFamily(check func(n int, f []int)) {
	eachOfManyFamilies(check)
	eachFamilyOfFourPoints(func(f []int) { check(4, f) })
	for n := 1; n <= impl.PointsMax; n++ {
		for _, f := range boundedFamilies(n) {
			check(n, f)
		}
	}
}

func TestPromise71PressAll(t *testing.T) {
	eachBoundedFamily(func(n int, f []int) {
		all, ok := impl.PressAll(n, f)
		if !ok || len(all) != len(f) || !impl.PressedIn(n, all) {
			t.Errorf("PressAll(%d, %v) is %v, %v, which has other than %d sets or is not pressed", n, f, all, ok, len(f))
		}
		before, _ := impl.BoundaryInner(n, f)
		if after, ok := impl.BoundaryInner(n, all); !ok || after < before {
			t.Errorf("PressAll(%d, %v) has %d inner edges, %v, the family %d", n, f, after, ok, before)
		}
	})
}

// leastBoundaries has, for each number of sets, how many sets the boundary of BoundaryFirst of so many has.
func leastBoundaries(t *testing.T, n int) []int {
	t.Helper()
	var least []int
	for m := range power(n) + 1 {
		first, ok := impl.BoundaryFirst(n, m)
		boundary, also := impl.BoundaryOf(n, first)
		if !ok || !also {
			t.Errorf("BoundaryFirst(%d, %d) or BoundaryOf of it fails", n, m)
		}
		least = append(least, len(boundary))
	}
	return least
}

func TestPromise72BoundaryOf(t *testing.T) {
	var least [impl.PointsMax + 1][]int
	for n := 1; n <= impl.PointsMax; n++ {
		least[n] = leastBoundaries(t, n)
	}
	eachBoundedFamily(func(n int, f []int) {
		boundary, ok := impl.BoundaryOf(n, f)
		wantList(t, fmt.Sprintf("BoundaryOf(%d, %v)", n, f), boundary, ok, boundaryByHand(n, f))
		if len(boundary) < least[n][len(f)] {
			t.Errorf("BoundaryOf(%d, %v) has %d sets, that of the first sets %d", n, f, len(boundary), least[n][len(f)])
		}
		common, ok := impl.FamilyCommon(n, f, boundary)
		wantList(t, fmt.Sprintf("FamilyCommon(%d, %v, %v)", n, f, boundary), common, ok, nil)
	})
}

func TestPromise73BoundaryEdges(t *testing.T) {
	eachBoundedFamily(func(n int, f []int) {
		wantEdges, wantInner := edgesByHand(n, f)
		edges, ok := impl.BoundaryEdges(n, f)
		wantNumber(t, fmt.Sprintf("BoundaryEdges(%d, %v)", n, f), edges, ok, wantEdges)
		inner, ok := impl.BoundaryInner(n, f)
		wantNumber(t, fmt.Sprintf("BoundaryInner(%d, %v)", n, f), inner, ok, wantInner)
		if edges+2*inner != n*len(f) {
			t.Errorf("for %d points and %v there are %d edges and %d inner ones", n, f, edges, inner)
		}
		rest, _ := impl.FamilyRest(n, f)
		ofRest, ok := impl.BoundaryEdges(n, rest)
		wantNumber(t, fmt.Sprintf("BoundaryEdges(%d, %v)", n, rest), ofRest, ok, edges)
	})
}

func TestPromise74BoundaryInner(t *testing.T) {
	eachBoundedFamily(func(n int, f []int) {
		inner, ok := impl.BoundaryInner(n, f)
		if most, also := impl.BoundaryDigits(len(f)); !ok || !also || inner > most {
			t.Errorf("BoundaryInner(%d, %v) is %d, %v, BoundaryDigits is %d, %v", n, f, inner, ok, most, also)
		}
	})
}

// checkBalls compares the balls of a set for all radiuses.
func checkBalls(t *testing.T, n, s int) {
	t.Helper()
	balls := ballsByHand(n, s)
	for radius, want := range balls {
		what := fmt.Sprintf("BoundaryBall(%d, %d, %d)", n, s, radius)
		ball, ok := impl.BoundaryBall(n, s, radius)
		wantList(t, what, ball, ok, want)
		if bound, ok := impl.TraceBound(n, radius); !ok || len(ball) != bound || !slices.Contains(ball, s) {
			t.Errorf("%s is %v, of %d sets, TraceBound is %d, %v", what, ball, len(ball), bound, ok)
		}
		if radius == n {
			continue
		}
		next, _ := impl.BoundaryBall(n, s, radius+1)
		more, _ := impl.FamilyLess(n, next, ball)
		boundary, ok := impl.BoundaryOf(n, ball)
		wantList(t, "BoundaryOf of "+what, boundary, ok, more)
	}
}

func TestPromise75BoundaryBall(t *testing.T) {
	eachSet(func(n, s int) { checkBalls(t, n, s) })
}

func TestPromise76BoundaryOrder(t *testing.T) {
	for n := 1; n <= impl.PointsMax; n++ {
		order, ok := impl.BoundaryOrder(n)
		wantList(t, fmt.Sprintf("BoundaryOrder(%d)", n), order, ok, ballOrderByHand(n))
		all, ok := impl.FamilyOf(n, order)
		wantList(t, fmt.Sprintf("FamilyOf(%d, %v)", n, order), all, ok, allByHand(n))
		if !slices.IsSortedFunc(order, func(a, b int) int { return len(pointsByHand(n, a)) - len(pointsByHand(n, b)) }) {
			t.Errorf("BoundaryOrder(%d) is %v, where sizes fall", n, order)
		}
	}
}

func TestPromise77BoundaryFirst(t *testing.T) {
	for n := 1; n <= impl.PointsMax; n++ {
		order := ballOrderByHand(n)
		for m := range power(n) + 1 {
			first, ok := impl.BoundaryFirst(n, m)
			wantList(t, fmt.Sprintf("BoundaryFirst(%d, %d)", n, m), first, ok, firstByHand(order, m))
			if len(first) != m || !impl.FamilyIn(n, first) {
				t.Errorf("BoundaryFirst(%d, %d) is %v, no family of so many sets", n, m, first)
			}
		}
		for d := -1; d <= n; d++ {
			bound, _ := impl.TraceBound(n, d)
			most, _ := impl.TraceMost(n, d)
			first, ok := impl.BoundaryFirst(n, bound)
			wantList(t, fmt.Sprintf("BoundaryFirst(%d, %d)", n, bound), first, ok, most)
		}
	}
}

func TestPromise78BoundaryBinary(t *testing.T) {
	for n := 1; n <= impl.PointsMax; n++ {
		for m := range power(n) + 1 {
			first, ok := impl.BoundaryBinary(n, m)
			wantList(t, fmt.Sprintf("BoundaryBinary(%d, %d)", n, m), first, ok, where(n, func(s int) bool { return s < m }))
			if !impl.PressedIn(n, first) || !impl.ShiftedIn(n, first) {
				t.Errorf("BoundaryBinary(%d, %d) is %v, which is not pressed or not shifted", n, m, first)
			}
			digits, _ := impl.BoundaryDigits(m)
			inner, ok := impl.BoundaryInner(n, first)
			wantNumber(t, fmt.Sprintf("BoundaryInner(%d, %v)", n, first), inner, ok, digits)
		}
	}
}

func TestPromise79BoundaryDigits(t *testing.T) {
	for m := range 1001 {
		digits, ok := impl.BoundaryDigits(m)
		wantNumber(t, fmt.Sprintf("BoundaryDigits(%d)", m), digits, ok, digitsByHand(m))
		if m <= 500 {
			twice, ok := impl.BoundaryDigits(2 * m)
			wantNumber(t, fmt.Sprintf("BoundaryDigits(%d)", 2*m), twice, ok, 2*digits+m)
		}
	}
}

func checkDistance(t *testing.T, n int, f []int, want int) {
	t.Helper()
	distance, ok := impl.BoundaryDistance(n, f)
	wantNumber(t, fmt.Sprintf("BoundaryDistance(%d, %v)", n, f), distance, ok, want)
	other, _ := impl.FamilyOther(n, f)
	ofOther, ok := impl.BoundaryDistance(n, other)
	wantNumber(t, fmt.Sprintf("BoundaryDistance(%d, %v)", n, other), ofOther, ok, want)
	ball, ok := impl.BoundaryBall(n, 0, (distance-1)/2)
	if !ok || len(f)*len(ball) > power(n) {
		t.Errorf("BoundaryDistance(%d, %v) is %d, for which a ball has %d sets, %v", n, f, distance, len(ball), ok)
	}
}

func TestPromise80BoundaryDistance(t *testing.T) {
	eachBoundedFamily(func(n int, f []int) {
		if len(f) < 2 {
			distance, ok := impl.BoundaryDistance(n, f)
			wantNoNumber(t, fmt.Sprintf("BoundaryDistance(%d, %v)", n, f), distance, ok)
			return
		}
		checkDistance(t, n, f, distanceByHand(n, f))
	})
}

// Of two sets the distance is the number of places in which their texts differ.
func TestBoundaryDistanceOfAllTwoSets(t *testing.T) {
	eachSet(func(n, s int) {
		text := textByHand(n, s)
		for x := range s {
			differ, other := 0, textByHand(n, x)
			for p := range n {
				if text[p] != other[p] {
					differ++
				}
			}
			checkDistance(t, n, []int{x, s}, differ)
		}
	})
}

// The two sets that are nearest to each other may stand anywhere in the family.
func TestBoundaryDistanceOfTwoSetsAmongOthers(t *testing.T) {
	for n := 5; n <= impl.PointsMax; n++ {
		far := farSets(allByHand(n), 4)
		for _, s := range far {
			for p := range n {
				checkDistance(t, n, sortedUnion(far, []int{flippedByHand(s, p)}), 1)
			}
		}
	}
}

// For up to four points all families are asked: none of so many sets has a lesser boundary or more inner edges.
func TestBoundaryFirstAndBoundaryBinaryAreTheBest(t *testing.T) {
	for n := 1; n <= 4; n++ {
		least, most := make([]int, power(n)+1), make([]int, power(n)+1)
		for m := range least {
			least[m] = math.MaxInt
		}
		for code := range power(power(n)) {
			f := where(n, func(s int) bool { return code>>s&1 == 1 })
			_, inner := edgesByHand(n, f)
			least[len(f)] = min(least[len(f)], len(boundaryByHand(n, f)))
			most[len(f)] = max(most[len(f)], inner)
		}
		for m := range least {
			first, _ := impl.BoundaryFirst(n, m)
			boundary, ok := impl.BoundaryOf(n, first)
			if !ok || len(boundary) != least[m] {
				t.Errorf("BoundaryOf(%d, %v) has %d sets, %v, the least one of so many has %d", n, first, len(boundary), ok, least[m])
			}
			binary, _ := impl.BoundaryBinary(n, m)
			inner, ok := impl.BoundaryInner(n, binary)
			wantNumber(t, fmt.Sprintf("BoundaryInner(%d, %v)", n, binary), inner, ok, most[m])
		}
	}
}

type boundaryCase struct {
	what         string
	n            int
	f, boundary  []int
	edges, inner int
	// 0 for fewer than two sets, for which it fails.
	distance int
}

func checkBoundaryCase(t *testing.T, x boundaryCase) {
	t.Helper()
	boundary, ok := impl.BoundaryOf(x.n, x.f)
	wantList(t, fmt.Sprintf("%s: BoundaryOf(%d, %v)", x.what, x.n, x.f), boundary, ok, x.boundary)
	edges, ok := impl.BoundaryEdges(x.n, x.f)
	wantNumber(t, fmt.Sprintf("%s: BoundaryEdges(%d, %v)", x.what, x.n, x.f), edges, ok, x.edges)
	inner, ok := impl.BoundaryInner(x.n, x.f)
	wantNumber(t, fmt.Sprintf("%s: BoundaryInner(%d, %v)", x.what, x.n, x.f), inner, ok, x.inner)
	distance, ok := impl.BoundaryDistance(x.n, x.f)
	what := fmt.Sprintf("%s: BoundaryDistance(%d, %v)", x.what, x.n, x.f)
	if x.distance == 0 {
		wantNoNumber(t, what, distance, ok)
		return
	}
	wantNumber(t, what, distance, ok, x.distance)
}

// The results are worked out by hand.
func TestBoundaryExamples(t *testing.T) {
	for _, x := range []boundaryCase{
		{"neighbours", 3, []int{0, 1}, []int{2, 3, 4, 5}, 4, 1, 1},
		{"neighbours by the greatest point", 3, []int{3, 7}, []int{1, 2, 5, 6}, 4, 1, 1},
		{"a set and its other", 3, []int{2, 5}, []int{0, 1, 3, 4, 6, 7}, 6, 0, 3},
		{"two sets with two common neighbours", 3, []int{1, 2}, []int{0, 3, 5, 6}, 6, 0, 2},
		{"neighbours and one more", 3, []int{0, 1, 6}, []int{2, 3, 4, 5, 7}, 7, 1, 1},
		{"one face", 3, []int{4, 5, 6, 7}, []int{0, 1, 2, 3}, 4, 4, 1},
		{"a ball", 3, []int{1, 4, 5, 7}, []int{0, 3, 6}, 6, 3, 1},
		{"sets of one point", 3, []int{1, 2, 4}, []int{0, 3, 5, 6}, 9, 0, 2},
		{"all sets but one", 3, []int{0, 1, 2, 3, 4, 6, 7}, []int{5}, 3, 9, 1},
		{"all sets of an even size", 3, []int{0, 3, 5, 6}, []int{1, 2, 4, 7}, 12, 0, 2},
		{"sets of two points", 4, []int{3, 5, 6, 9, 10, 12}, []int{1, 2, 4, 7, 8, 11, 13, 14}, 24, 0, 2},
		{"two pairs of neighbours", 4, []int{0, 1, 14, 15}, []int{2, 3, 4, 5, 6, 7, 8, 9, 10, 11, 12, 13}, 12, 2, 1},
		{"one of two sets", 1, []int{1}, []int{0}, 1, 0, 0},
		{"both sets of one point", 1, []int{0, 1}, nil, 0, 1, 1},
		{"two sets that are no neighbours", 2, []int{1, 2}, []int{0, 3}, 4, 0, 2},
	} {
		checkBoundaryCase(t, x)
	}
}

// The results are worked out by hand.
func TestBoundaryOrderExamples(t *testing.T) {
	for i, want := range [][]int{
		{0, 1},
		{0, 1, 2, 3},
		{0, 1, 2, 4, 3, 5, 6, 7},
		{0, 1, 2, 4, 8, 3, 5, 9, 6, 10, 12, 7, 11, 13, 14, 15},
	} {
		order, ok := impl.BoundaryOrder(i + 1)
		wantList(t, fmt.Sprintf("BoundaryOrder(%d)", i+1), order, ok, want)
	}
}

// In ball order the sets 9, 17 and so on, which have the point 0, are ahead of 6, which is less.
func TestBallOrderIsNotThatOfTheNumbers(t *testing.T) {
	order, _ := impl.BoundaryOrder(5)
	sizes := [][]int{
		{3, 5, 9, 17, 6, 10, 18, 12, 20, 24},
		{7, 11, 19, 13, 21, 25, 14, 22, 26, 28},
	}
	if !slices.Equal(order[6:26], slices.Concat(sizes...)) {
		t.Errorf("BoundaryOrder(5) is %v", order)
	}
	for _, x := range []struct {
		n, m int
		want []int
	}{
		{4, 8, []int{0, 1, 2, 3, 4, 5, 8, 9}},
		{4, 9, []int{0, 1, 2, 3, 4, 5, 6, 8, 9}},
		{5, 10, []int{0, 1, 2, 3, 4, 5, 8, 9, 16, 17}},
		{8, 16, []int{0, 1, 2, 3, 4, 5, 8, 9, 16, 17, 32, 33, 64, 65, 128, 129}},
		{8, 17, []int{0, 1, 2, 3, 4, 5, 6, 8, 9, 16, 17, 32, 33, 64, 65, 128, 129}},
	} {
		first, ok := impl.BoundaryFirst(x.n, x.m)
		wantList(t, fmt.Sprintf("BoundaryFirst(%d, %d)", x.n, x.m), first, ok, x.want)
	}
}

func TestBoundariesOfAllSets(t *testing.T) {
	for n := 1; n <= impl.PointsMax; n++ {
		all := allByHand(n)
		checkBoundaryCase(t, boundaryCase{"all sets", n, all, nil, 0, n * power(n) / 2, 1})
		for s := range all {
			but := without(all, []int{s})
			x := boundaryCase{"all sets but one", n, but, []int{s}, n, n*power(n)/2 - n, 1}
			if n == 1 {
				x.distance = 0
			}
			checkBoundaryCase(t, x)
		}
	}
}

func TestBoundariesOfTheEmptyFamily(t *testing.T) {
	for n := 1; n <= impl.PointsMax; n++ {
		for _, f := range [][]int{nil, {}} {
			checkBoundaryCase(t, boundaryCase{"no set", n, f, nil, 0, 0, 0})
		}
	}
}

// The family with the empty set alone is one of them.
func TestBoundariesOfOneSet(t *testing.T) {
	for n := 1; n <= impl.PointsMax; n++ {
		checkBoundaryCase(t, boundaryCase{"the empty set", n, []int{0}, levelByHand(n, 1), n, 0, 0})
	}
	eachSet(func(n, s int) {
		var neighbours []int
		for p := range n {
			neighbours = append(neighbours, flippedByHand(s, p))
		}
		slices.Sort(neighbours)
		checkBoundaryCase(t, boundaryCase{"one set", n, []int{s}, neighbours, n, 0, 0})
	})
}

func TestBoundariesOfNeighboursAndOfASetWithItsOther(t *testing.T) {
	eachSet(func(n, s int) {
		for p := range n {
			f := sortedUnion([]int{s, flippedByHand(s, p)})
			distance, ok := impl.BoundaryDistance(n, f)
			wantNumber(t, fmt.Sprintf("BoundaryDistance(%d, %v)", n, f), distance, ok, 1)
			inner, ok := impl.BoundaryInner(n, f)
			wantNumber(t, fmt.Sprintf("BoundaryInner(%d, %v)", n, f), inner, ok, 1)
			edges, ok := impl.BoundaryEdges(n, f)
			wantNumber(t, fmt.Sprintf("BoundaryEdges(%d, %v)", n, f), edges, ok, 2*n-2)
		}
		f := sortedUnion([]int{s, power(n) - 1 - s})
		distance, ok := impl.BoundaryDistance(n, f)
		wantNumber(t, fmt.Sprintf("BoundaryDistance(%d, %v)", n, f), distance, ok, n)
	})
}

func TestBallsOfTheLeastAndTheGreatestRadius(t *testing.T) {
	eachSet(func(n, s int) {
		ball, ok := impl.BoundaryBall(n, s, 0)
		wantList(t, fmt.Sprintf("BoundaryBall(%d, %d, 0)", n, s), ball, ok, []int{s})
		ball, ok = impl.BoundaryBall(n, s, n)
		wantList(t, fmt.Sprintf("BoundaryBall(%d, %d, %d)", n, s, n), ball, ok, allByHand(n))
		ball, ok = impl.BoundaryBall(n, s, n-1)
		wantList(t, fmt.Sprintf("BoundaryBall(%d, %d, %d)", n, s, n-1), ball, ok, without(allByHand(n), []int{power(n) - 1 - s}))
	})
	ball, ok := impl.BoundaryBall(3, 5, 1)
	wantList(t, "BoundaryBall(3, 5, 1)", ball, ok, []int{1, 4, 5, 7})
	ball, ok = impl.BoundaryBall(4, 3, 2)
	wantList(t, "BoundaryBall(4, 3, 2)", ball, ok, []int{0, 1, 2, 3, 5, 6, 7, 9, 10, 11, 15})
}

func TestFirstSetsAtTheirEnds(t *testing.T) {
	for n := 1; n <= impl.PointsMax; n++ {
		for _, x := range []struct {
			m    int
			want []int
		}{
			{0, nil},
			{1, []int{0}},
			{2, []int{0, 1}},
			{power(n) - 1, where(n, func(s int) bool { return s < power(n)-1 })},
			{power(n), allByHand(n)},
		} {
			first, ok := impl.BoundaryFirst(n, x.m)
			wantList(t, fmt.Sprintf("BoundaryFirst(%d, %d)", n, x.m), first, ok, x.want)
			binary, ok := impl.BoundaryBinary(n, x.m)
			wantList(t, fmt.Sprintf("BoundaryBinary(%d, %d)", n, x.m), binary, ok, x.want)
		}
	}
}

func TestBoundaryDigitsAtItsLimits(t *testing.T) {
	for _, x := range []struct{ m, want int }{
		{0, 0}, {1, 0}, {2, 1}, {3, 2}, {4, 4}, {5, 5}, {8, 12}, {256, 1024}, {512, 2304},
		{500, 2216}, {501, 2222}, {999, 4924}, {1000, 4932},
	} {
		digits, ok := impl.BoundaryDigits(x.m)
		wantNumber(t, fmt.Sprintf("BoundaryDigits(%d)", x.m), digits, ok, x.want)
	}
	for _, m := range []int{math.MinInt, -1 << 32, -1000, -2, -1, 1001, 1002, 2000, 1 << 32, 1<<32 + 1, math.MaxInt} {
		digits, ok := impl.BoundaryDigits(m)
		wantNoNumber(t, fmt.Sprintf("BoundaryDigits(%d)", m), digits, ok)
	}
}

// boundaryNumbers has each function that makes a number of a family.
func boundaryNumbers() []numberCall {
	return []numberCall{
		{"BoundaryEdges", impl.BoundaryEdges},
		{"BoundaryInner", impl.BoundaryInner},
		{"BoundaryDistance", impl.BoundaryDistance},
	}
}

func TestBoundaryCallsOthers(t *testing.T) {
	for _, x := range badFamilies() {
		boundary, ok := impl.BoundaryOf(x.n, x.list)
		wantNoList(t, fmt.Sprintf("BoundaryOf(%d, %v)", x.n, x.list), boundary, ok)
		for _, c := range boundaryNumbers() {
			got, ok := c.call(x.n, x.list)
			wantNoNumber(t, fmt.Sprintf("%s(%d, %v)", c.name, x.n, x.list), got, ok)
		}
	}
}

func wantNoBall(t *testing.T, n, s, radius int) {
	t.Helper()
	ball, ok := impl.BoundaryBall(n, s, radius)
	wantNoList(t, fmt.Sprintf("BoundaryBall(%d, %d, %d)", n, s, radius), ball, ok)
}

func TestBallsOfNoSet(t *testing.T) {
	for _, x := range badSets() {
		for _, radius := range []int{math.MinInt, -1, 0, 1, x.n - 1, x.n, x.n + 1, math.MaxInt} {
			wantNoBall(t, x.n, x.s, radius)
		}
	}
}

func TestBallsOfNoRadius(t *testing.T) {
	eachSet(func(n, s int) {
		for _, radius := range []int{math.MinInt, -n, -1, n + 1, n + 2, 9, 64, 1 << 32, 1<<32 + 1, math.MaxInt} {
			wantNoBall(t, n, s, radius)
		}
	})
}

func wantNoFirstSets(t *testing.T, n, m int) {
	t.Helper()
	first, ok := impl.BoundaryFirst(n, m)
	wantNoList(t, fmt.Sprintf("BoundaryFirst(%d, %d)", n, m), first, ok)
	binary, ok := impl.BoundaryBinary(n, m)
	wantNoList(t, fmt.Sprintf("BoundaryBinary(%d, %d)", n, m), binary, ok)
}

func TestBoundaryOrderAndFirstSetsOthers(t *testing.T) {
	for _, n := range badCounts {
		order, ok := impl.BoundaryOrder(n)
		wantNoList(t, fmt.Sprintf("BoundaryOrder(%d)", n), order, ok)
		for _, m := range []int{math.MinInt, -1, 0, 1, 2, 256, 257, math.MaxInt} {
			wantNoFirstSets(t, n, m)
		}
	}
	for n := 1; n <= impl.PointsMax; n++ {
		for _, m := range []int{math.MinInt, -power(n), -1, power(n) + 1, 2 * power(n), 257, 1 << 32, 1<<32 + 1, math.MaxInt} {
			wantNoFirstSets(t, n, m)
		}
	}
}

// boundaryListCalls has each function that makes a list without a family, for all numbers of sets and all radiuses.
func boundaryListCalls(n int) []familyCall {
	out := []familyCall{{"BoundaryOrder", func(n int, f []int) ([]int, bool) { return impl.BoundaryOrder(n) }}}
	for m := range power(n) + 1 {
		out = append(out,
			familyCall{fmt.Sprintf("BoundaryFirst of %d", m), func(n int, f []int) ([]int, bool) { return impl.BoundaryFirst(n, m) }},
			familyCall{fmt.Sprintf("BoundaryBinary of %d", m), func(n int, f []int) ([]int, bool) { return impl.BoundaryBinary(n, m) }})
	}
	for radius := range n + 1 {
		out = append(out, familyCall{
			fmt.Sprintf("BoundaryBall of the radius %d", radius),
			func(n int, f []int) ([]int, bool) { return impl.BoundaryBall(n, power(n)-1, radius) },
		})
	}
	return out
}

func TestBoundariesAreNewMemory(t *testing.T) {
	eachFamily(func(n int, f []int) { checkNewMemory(t, familyCall{"BoundaryOf", impl.BoundaryOf}, n, f) })
	for n := 1; n <= impl.PointsMax; n++ {
		for _, c := range boundaryListCalls(n) {
			checkNewMemory(t, c, n, nil)
		}
	}
}

func TestBoundaryCallsLeaveTheirArguments(t *testing.T) {
	eachFamily(func(n int, f []int) {
		given := append(slices.Clone(f), 0, 1, 0, 1)
		before := slices.Clone(given)
		for _, c := range boundaryNumbers() {
			c.call(n, given[:len(f)])
		}
		if !slices.Equal(given, before) {
			t.Errorf("the list %v of %d points was changed to %v", before, n, given)
		}
	})
}

// boundaryAnswers tells what each function of the chapter makes of a family, and of the numbers that its length names.
func boundaryAnswers(n int, f []int) []string {
	boundary, ok := impl.BoundaryOf(n, f)
	out := []string{fmt.Sprint(boundary, ok)}
	for _, c := range boundaryNumbers() {
		number, ok := c.call(n, f)
		out = append(out, fmt.Sprint(c.name, number, ok))
	}
	m := len(f)
	ball, ballOk := impl.BoundaryBall(n, m, m%3)
	order, orderOk := impl.BoundaryOrder(n)
	first, firstOk := impl.BoundaryFirst(n, m)
	binary, binaryOk := impl.BoundaryBinary(n, m)
	digits, digitsOk := impl.BoundaryDigits(m)
	return append(out, fmt.Sprint(ball, ballOk, order, orderOk), fmt.Sprint(first, firstOk, binary, binaryOk, digits, digitsOk))
}

func TestBoundariesKeepNoState(t *testing.T) {
	checkNoState(t, boundaryAnswers)
}
