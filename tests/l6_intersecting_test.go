package tests

import (
	"fmt"
	"math"
	"slices"
	"testing"

	"loop.example/setshadows/impl"
)

// leavesMost is the greatest number of leaves that the document lets FlowerOf and FlowerFree take.
const leavesMost = 4

// meetByHand goes through the points from 0 on.
func meetByHand(a, b int) bool {
	for ; a > 0 && b > 0; a, b = a/2, b/2 {
		if a%2 == 1 && b%2 == 1 {
			return true
		}
	}
	return false
}

// apartByHand lists the sets that have no common point with one of some sets: the parts of what these leave over.
func apartByHand(n int, f []int) []int {
	var others []int
	for _, s := range f {
		others = append(others, power(n)-1-s)
	}
	return closedDownByHand(n, others)
}

func crossByHand(n int, f, g []int) bool {
	return len(without(g, apartByHand(n, f))) == len(g)
}

func intersectByHand(n int, f []int) bool {
	return crossByHand(n, f, f)
}

// growByHand marks, for each set that comes in, which sets can't come in any more.
func growByHand(n int, f []int) []int {
	barred := members(apartByHand(n, f))
	barred[0] = true
	in := members(f)
	for s := range power(n) {
		if barred[s] {
			continue
		}
		in[s] = true
		for x := range power(n) {
			barred[x] = barred[x] || !meetByHand(s, x)
		}
	}
	return where(n, func(s int) bool { return in[s] })
}

// allInDisorder has all sets of n points.
func allInDisorder(n, seed int) []int {
	return inDisorder(where(n, func(s int) bool { return true }), seed)
}

// meetingSets takes sets that have common points, until there are m of them or no more.
func meetingSets(order []int, m int) []int {
	var f []int
	for _, s := range order {
		apart := func(x int) bool { return !meetByHand(s, x) }
		if len(f) < m && s > 0 && !slices.ContainsFunc(f, apart) {
			f = append(f, s)
		}
	}
	slices.Sort(f)
	return f
}

// starByHand lists the sets of a size that are left when the sets without the point are taken away.
func starByHand(n, k, p int) []int {
	rest := where(n, func(s int) bool { return !slices.Contains(pointsByHand(n, s), p) })
	return without(levelByHand(n, k), rest)
}

// intersectingFamilies has families of few sets, of many and of half of all, of any sizes, of large sizes and of one.
func intersectingFamilies(n int) [][]int {
	var out [][]int
	for seed := range 8 {
		order := allInDisorder(n, seed)
		large := pick(order, func(i int) bool { return 2*len(pointsByHand(n, order[i])) >= n })
		for _, m := range []int{1, 2, 3, 4, 7, n, power(n) / 4, power(n)/2 - 1, power(n) / 2} {
			out = append(out, meetingSets(order, m), meetingSets(large, m))
		}
	}
	for k := 1; k <= n; k++ {
		out = append(out, starByHand(n, k, 0), starByHand(n, k, n-1), meetingSets(levelByHand(n, k), power(n)))
	}
	return out
}

// eachMeetingFamily calls a check for the families of eachChainFamily, and for intersecting ones of more points,
// each also with one more set.
func eachMeetingFamily(check func(n int, f []int)) {
	eachChainFamily(check)
	for n := 5; n <= impl.PointsMax; n++ {
		for i, f := range intersectingFamilies(n) {
			check(n, f)
			check(n, sortedUnion(f, []int{int(mixed(i, n)) % power(n)}))
		}
	}
}

func checkShiftAllKeeps(t *testing.T, n int, f []int) {
	t.Helper()
	checkShiftAll(t, n, f)
	all, _ := impl.ShiftAll(n, f)
	if impl.IntersectIn(n, f) && !impl.IntersectIn(n, all) {
		t.Errorf("IntersectIn holds for %v of %d points, but not for its ShiftAll, %v", f, n, all)
	}
}

func TestPromise52ShiftAll(t *testing.T) {
	eachOfManyFamilies(func(n int, f []int) { checkShiftAllKeeps(t, n, f) })
	eachFamilyOfFourPoints(func(f []int) {
		if intersectByHand(4, f) {
			checkShiftAllKeeps(t, 4, f)
		}
	})
	for n := 5; n <= impl.PointsMax; n++ {
		for _, f := range intersectingFamilies(n) {
			checkShiftAllKeeps(t, n, f)
		}
	}
}

func TestPromise53IntersectIn(t *testing.T) {
	eachMeetingFamily(func(n int, f []int) {
		want := intersectByHand(n, f)
		if got := impl.IntersectIn(n, f); got != want {
			t.Errorf("IntersectIn(%d, %v) is %v, want %v", n, f, got, want)
		}
		if !want {
			return
		}
		if 2*len(f) > power(n) {
			t.Errorf("IntersectIn(%d, %v) holds for %d sets", n, f, len(f))
		}
		if impl.ShadowEven(n, f) {
			k := len(pointsByHand(n, f[0]))
			if most, ok := impl.IntersectMost(n, k); !ok || len(f) > most {
				t.Errorf("IntersectIn(%d, %v) holds for %d sets, IntersectMost(%d, %d) is %d, %v", n, f, len(f), n, k, most, ok)
			}
		}
	})
}

func checkCross(t *testing.T, n int, f, g []int) {
	t.Helper()
	want := crossByHand(n, f, g)
	if got := impl.IntersectCross(n, f, g); got != want {
		t.Errorf("IntersectCross(%d, %v, %v) is %v, want %v", n, f, g, got, want)
	}
	if got := impl.IntersectCross(n, g, f); got != want {
		t.Errorf("IntersectCross(%d, %v, %v) is %v, want %v", n, g, f, got, want)
	}
	if !want {
		return
	}
	other, _ := impl.FamilyOther(n, f)
	for _, s := range g {
		if slices.ContainsFunc(other, func(x int) bool { return partByHand(s, x) }) {
			t.Errorf("IntersectCross(%d, %v, %v) holds, but %d is a part of a set of %v", n, f, g, s, other)
		}
	}
}

func TestPromise54IntersectCross(t *testing.T) {
	eachTwoFamilies(func(n int, f, g []int) { checkCross(t, n, f, g) })
	for n := 4; n <= impl.PointsMax; n++ {
		for i, f := range append(someFamilies(n), intersectingFamilies(n)...) {
			meeting := without(where(n, func(s int) bool { return true }), apartByHand(n, f))
			few := fewOf(meeting, 1+i%9, i)
			checkCross(t, n, f, meeting)
			checkCross(t, n, f, few)
			checkCross(t, n, f, sortedUnion(few, []int{int(mixed(i, n)) % power(n)}))
		}
	}
}

func TestPromise55IntersectStar(t *testing.T) {
	for n := 1; n <= impl.PointsMax; n++ {
		for k := 1; k <= n; k++ {
			for p := range n {
				star, ok := impl.IntersectStar(n, k, p)
				wantList(t, fmt.Sprintf("IntersectStar(%d, %d, %d)", n, k, p), star, ok, starByHand(n, k, p))
				if !impl.IntersectIn(n, star) {
					t.Errorf("IntersectStar(%d, %d, %d) is %v, which is not intersecting", n, k, p, star)
				}
				most, ok := impl.IntersectMost(n, k)
				if !ok || (len(star) == most) != (2*k <= n || k == n) {
					t.Errorf("IntersectStar(%d, %d, %d) has %d sets, IntersectMost is %d, %v", n, k, p, len(star), most, ok)
				}
			}
		}
	}
}

func TestPromise56IntersectMost(t *testing.T) {
	for n := 1; n <= impl.PointsMax; n++ {
		ways := triangle(n)
		for k := 1; k <= n; k++ {
			most, ok := impl.IntersectMost(n, k)
			level := levelByHand(n, k)
			if 2*k <= n {
				wantNumber(t, fmt.Sprintf("IntersectMost(%d, %d)", n, k), most, ok, ways[n-1][k-1])
			} else {
				wantNumber(t, fmt.Sprintf("IntersectMost(%d, %d)", n, k), most, ok, len(level))
			}
			if impl.IntersectIn(n, level) != (2*k > n) {
				t.Errorf("IntersectIn of all sets of %d points with the size %d is %v", n, k, 2*k <= n)
			}
		}
	}
}

// mostOf returns the greatest number of sets of a list that have common points: those with the first set, or,
// if some have none with it, those without it.
func mostOf(sets []int) int {
	if len(sets) == 0 {
		return 0
	}
	rest := sets[1:]
	meeting := pick(rest, func(i int) bool { return meetByHand(sets[0], rest[i]) })
	most := 1 + mostOf(meeting)
	if len(meeting) < len(rest) {
		most = max(most, mostOf(rest))
	}
	return most
}

// All parts of the level are tried. The sizes 3 and 4 of 8 points have too many sets for this.
func TestIntersectMostIsTheMost(t *testing.T) {
	for n := 1; n <= impl.PointsMax; n++ {
		for k := 1; k <= n; k++ {
			if level := levelByHand(n, k); len(level) <= 35 || 2*k > n {
				most, ok := impl.IntersectMost(n, k)
				wantNumber(t, fmt.Sprintf("IntersectMost(%d, %d)", n, k), most, ok, mostOf(level))
			}
		}
	}
}

func wantNoGrowth(t *testing.T, n int, f []int) {
	t.Helper()
	grown, ok := impl.IntersectGrow(n, f)
	wantNoList(t, fmt.Sprintf("IntersectGrow(%d, %v)", n, f), grown, ok)
}

func TestPromise57IntersectGrow(t *testing.T) {
	eachMeetingFamily(func(n int, f []int) {
		if !intersectByHand(n, f) {
			wantNoGrowth(t, n, f)
			return
		}
		grown, ok := impl.IntersectGrow(n, f)
		wantList(t, fmt.Sprintf("IntersectGrow(%d, %v)", n, f), grown, ok, growByHand(n, f))
		if !impl.IntersectIn(n, grown) || !isPart(f, grown) || 2*len(grown) != power(n) {
			t.Errorf("IntersectGrow(%d, %v) is %v, with %d sets", n, f, grown, len(grown))
		}
		again, ok := impl.IntersectGrow(n, grown)
		wantList(t, fmt.Sprintf("IntersectGrow(%d, %v)", n, grown), again, ok, grown)
	})
}

// disjointByHand returns the first list of k sets of which no two have a common point, in the order of the list.
func disjointByHand(sets []int, k int) []int {
	if k == 0 {
		return []int{}
	}
	for i, s := range sets {
		rest := sets[i+1:]
		apart := pick(rest, func(j int) bool { return !meetByHand(s, rest[j]) })
		if more := disjointByHand(apart, k-1); more != nil {
			return append([]int{s}, more...)
		}
	}
	return nil
}

// flowerByHand goes through the cores: the leaves of a core are sets of which it is a part, and that have nothing
// else in common. The first set alone is a flower with 1 leaf.
func flowerByHand(n int, f []int, k int) ([]int, int) {
	if k == 1 && len(f) > 0 {
		return f[:1], f[0]
	}
	var first []int
	last := -1
	for core := range power(n) {
		var tips []int
		for _, s := range f {
			if k > 1 && partByHand(core, s) {
				tips = append(tips, s-core)
			}
		}
		leaves := disjointByHand(tips, k)
		for i := range leaves {
			leaves[i] += core
		}
		if leaves != nil && (first == nil || slices.Compare(leaves, first) < 0) {
			first, last = leaves, core
		}
	}
	return first, last
}

func wantNoFlower(t *testing.T, n int, f []int, k int) {
	t.Helper()
	leaves, core, ok := impl.FlowerOf(n, f, k)
	if ok || len(leaves) != 0 || core != 0 {
		t.Errorf("FlowerOf(%d, %v, %d) returned %v, %d, %v, want no sets, 0, false", n, f, k, leaves, core, ok)
	}
}

func wantFlower(t *testing.T, n int, f []int, k int, want []int, wantCore int) {
	t.Helper()
	leaves, core, ok := impl.FlowerOf(n, f, k)
	if !ok || core != wantCore || !slices.Equal(leaves, want) {
		t.Errorf("FlowerOf(%d, %v, %d) returned %v, %d, %v, want %v, %d, true", n, f, k, leaves, core, ok, want, wantCore)
	}
}

// checkFlower expects that FlowerOf succeeds.
func checkFlower(t *testing.T, n int, f []int, k int) {
	t.Helper()
	leaves, core, _ := impl.FlowerOf(n, f, k)
	if len(leaves) != k || !impl.FamilyIn(n, leaves) || !isPart(leaves, f) {
		t.Errorf("FlowerOf(%d, %v, %d) has the leaves %v", n, f, k, leaves)
	}
	for i, s := range leaves {
		for _, x := range leaves[:i] {
			if s&x != core {
				t.Errorf("FlowerOf(%d, %v, %d) has the leaves %d and %d, and the core %d", n, f, k, x, s, core)
			}
		}
	}
}

// checkFlowers asks for flowers with each number of leaves.
func checkFlowers(t *testing.T, n int, f []int) {
	t.Helper()
	for k := 1; k <= leavesMost; k++ {
		want, core := flowerByHand(n, f, k)
		if free := impl.FlowerFree(n, f, k); free != (want == nil) {
			t.Errorf("FlowerFree(%d, %v, %d) is %v, the first flower is %v", n, f, k, free, want)
		}
		if want == nil {
			wantNoFlower(t, n, f, k)
		} else {
			wantFlower(t, n, f, k, want, core)
			checkFlower(t, n, f, k)
		}
	}
}

// freeByHand puts sets into a family, as long as it has no flower with k leaves, and also tells the family with the
// first set that makes one.
func freeByHand(n, k int, order []int) ([]int, []int) {
	var f, over []int
	for _, s := range order {
		more := sortedUnion(f, []int{s})
		if leaves, _ := flowerByHand(n, more, k); leaves == nil {
			f = more
		} else if over == nil {
			over = more
		}
	}
	return f, over
}

// eachFlowerFamily has small families, and more sets without flowers than one would find by chance.
func eachFlowerFamily(check func(n int, f []int)) {
	eachSmallFamily(check)
	for n := 4; n <= impl.PointsMax; n++ {
		for _, f := range someFamilies(n) {
			check(n, f)
		}
		for k := 3; k <= leavesMost; k++ {
			for seed := range min(4, 9-n) {
				free, over := freeByHand(n, k, allInDisorder(n, seed))
				check(n, free)
				check(n, over)
			}
			for size := 1; size < n; size++ {
				free, over := freeByHand(n, k, fewOf(levelByHand(n, size), 20, k))
				check(n, free)
				check(n, over)
			}
		}
	}
}

func TestPromise58FlowerOf(t *testing.T) {
	eachFlowerFamily(func(n int, f []int) { checkFlowers(t, n, f) })
}

// mostFree is the product of all i times k - 1, for i from 1 to s.
func mostFree(s, k int) int {
	most := factorial(s)
	for range s {
		most *= k - 1
	}
	return most
}

func checkFree(t *testing.T, n int, f []int) {
	t.Helper()
	for k := 1; k <= leavesMost; k++ {
		if !impl.FlowerFree(n, f, k) {
			continue
		}
		if k < leavesMost && !impl.FlowerFree(n, f, k+1) {
			t.Errorf("FlowerFree(%d, %v, %d) holds, but not for one leaf more", n, f, k)
		}
		if impl.ShadowEven(n, f) && len(f) > mostFree(len(pointsByHand(n, f[0])), k) {
			t.Errorf("FlowerFree(%d, %v, %d) holds for %d sets", n, f, k, len(f))
		}
	}
}

func TestPromise59FlowerFree(t *testing.T) {
	eachFlowerFamily(func(n int, f []int) { checkFree(t, n, f) })
	eachEvenFamily(func(n, k int, f []int) { checkFree(t, n, f) })
}

// All sets of one size: k sets of one point have a flower with k leaves, k - 1 have none.
func TestFlowersOfSetsOfOnePoint(t *testing.T) {
	for n := 1; n <= impl.PointsMax; n++ {
		ones := levelByHand(n, 1)
		for m := range n + 1 {
			for k := 1; k <= leavesMost; k++ {
				if free := impl.FlowerFree(n, ones[:m], k); free != (m < k) {
					t.Errorf("FlowerFree(%d, %v, %d) is %v", n, ones[:m], k, free)
				}
				if m >= k && k > 1 {
					wantFlower(t, n, ones[:m], k, ones[:k], 0)
				}
			}
		}
	}
}

// skewByHand looks, for each first set, for all second ones with which it has no common point.
func skewByHand(a, b []int) bool {
	for i, first := range a {
		var apart []int
		for j, second := range b {
			if !meetByHand(first, second) {
				apart = append(apart, j)
			}
		}
		if !slices.Equal(apart, []int{i}) {
			return false
		}
	}
	return len(a) == len(b)
}

// pairsWholeByHand adds, for each pair, the part of all orders of its points in which those of the first set come first.
func pairsWholeByHand(n int, a, b []int) int {
	whole := 0
	for i := range a {
		first, second := len(pointsByHand(n, a[i])), len(pointsByHand(n, b[i]))
		whole += 840 * factorial(first) * factorial(second) / factorial(first+second)
	}
	return whole
}

// skewPairs takes pairs of sets with no common point, of at most most points both, until there are no more.
func skewPairs(n, most, seed int) ([]int, []int) {
	var a, b []int
	for code := range power(2 * n) {
		x := int(mixed(code, seed))
		first, second := x%power(n), x/power(n)%power(n)&^(x%power(n))
		if len(pointsByHand(n, first))+len(pointsByHand(n, second)) > most {
			continue
		}
		if moreA, moreB := append(slices.Clone(a), first), append(slices.Clone(b), second); skewByHand(moreA, moreB) {
			a, b = moreA, moreB
		}
	}
	return a, b
}

// otherPairs has each set of a size and the set of all other points, in disorder.
func otherPairs(n, k, seed int) ([]int, []int) {
	var a, b []int
	for _, s := range inDisorder(levelByHand(n, k), seed) {
		a = append(a, s)
		b = append(b, power(n)-1-s)
	}
	return a, b
}

// eachTwoShortLists has all pairs of lists of the same length, of up to most sets.
func eachTwoShortLists(n, most int, check func(n int, a, b []int)) {
	for m := range most + 1 {
		for code := range power(2 * n * m) {
			var a, b []int
			for range m {
				a = append(a, code%power(n))
				b = append(b, code/power(n)%power(n))
				code /= power(2 * n)
			}
			check(n, a, b)
		}
	}
}

// eachSkewPairs calls a check for lists of skew pairs.
func eachSkewPairs(check func(n int, a, b []int)) {
	for n := 1; n <= impl.PointsMax; n++ {
		for k := range n + 1 {
			a, b := otherPairs(n, k, k)
			check(n, a, b)
			check(n, a[:(len(a)+1)/2], b[:(len(a)+1)/2])
		}
		for seed := range 12 {
			for _, most := range []int{n, (n + 1) / 2} {
				a, b := skewPairs(n, most, seed)
				for _, m := range []int{1, 2, 3, 5, len(a)} {
					check(n, a[:min(m, len(a))], b[:min(m, len(a))])
				}
			}
		}
	}
}

// eachPairs calls a check for all short lists of up to three points, for skew pairs of more, and for what is left
// of them when a set is changed, two second sets are exchanged or a pair stands twice.
func eachPairs(check func(n int, a, b []int)) {
	eachTwoShortLists(1, 3, check)
	eachTwoShortLists(2, 3, check)
	eachTwoShortLists(3, 2, check)
	eachSkewPairs(func(n int, a, b []int) {
		check(n, a, b)
		for i := range a {
			p := int(mixed(i, n)) % n
			changedA, changedB, exchanged := slices.Clone(a), slices.Clone(b), slices.Clone(b)
			changedA[i] ^= power(p)
			changedB[i] ^= power(p)
			exchanged[i], exchanged[0] = exchanged[0], exchanged[i]
			check(n, changedA, b)
			check(n, a, changedB)
			check(n, a, exchanged)
		}
		if len(a) > 0 {
			check(n, append(slices.Clone(a), a[0]), append(slices.Clone(b), b[0]))
		}
	})
}

func TestPromise60PairsSkew(t *testing.T) {
	eachPairs(func(n int, a, b []int) {
		want := skewByHand(a, b)
		if got := impl.PairsSkew(n, a, b); got != want {
			t.Errorf("PairsSkew(%d, %v, %v) is %v, want %v", n, a, b, got, want)
		}
		if got := impl.PairsSkew(n, b, a); got != want {
			t.Errorf("PairsSkew(%d, %v, %v) is %v, want %v", n, b, a, got, want)
		}
		if last := len(a) - 1; want && last >= 0 && !impl.PairsSkew(n, a[:last], b[:last]) {
			t.Errorf("PairsSkew(%d, %v, %v) holds, but not without the last pair", n, a, b)
		}
	})
}

func wantPairsWeight(t *testing.T, n int, a, b []int, want int) {
	t.Helper()
	whole, bottom, ok := impl.PairsWeight(n, a, b)
	if !ok || whole != want || bottom != 840 {
		t.Errorf("PairsWeight(%d, %v, %v) returned %d, %d, %v, want %d, 840, true", n, a, b, whole, bottom, ok, want)
	}
}

func wantNoPairsWeight(t *testing.T, n int, a, b []int) {
	t.Helper()
	whole, bottom, ok := impl.PairsWeight(n, a, b)
	if ok || whole != 0 || bottom != 0 {
		t.Errorf("PairsWeight(%d, %v, %v) returned %d, %d, %v, want 0, 0, false", n, a, b, whole, bottom, ok)
	}
}

func TestPromise61PairsWeight(t *testing.T) {
	eachPairs(func(n int, a, b []int) {
		if !skewByHand(a, b) {
			wantNoPairsWeight(t, n, a, b)
			return
		}
		want := pairsWholeByHand(n, a, b)
		wantPairsWeight(t, n, a, b, want)
		wantPairsWeight(t, n, b, a, want)
		if want > 840 {
			t.Errorf("PairsWeight(%d, %v, %v) is %d over 840", n, a, b, want)
		}
	})
}

// rankByHand takes from n the greatest size of a set of which no set of the family is a part: the sets that have a
// common point with each set of the family leave over just these.
func rankByHand(n int, f []int) int {
	up := members(closedUpByHand(n, f))
	most := 0
	for _, s := range where(n, func(s int) bool { return !up[s] }) {
		most = max(most, len(pointsByHand(n, s)))
	}
	return n - most
}

func wantNoRank(t *testing.T, n int, f []int) {
	t.Helper()
	rank, ok := impl.IntersectRank(n, f)
	wantNoNumber(t, fmt.Sprintf("IntersectRank(%d, %v)", n, f), rank, ok)
}

func checkRank(t *testing.T, n int, f []int) {
	t.Helper()
	rank, ok := impl.IntersectRank(n, f)
	wantNumber(t, fmt.Sprintf("IntersectRank(%d, %v)", n, f), rank, ok, rankByHand(n, f))
	if rank > n || rank > len(f) || (rank == 0) != (len(f) == 0) {
		t.Errorf("IntersectRank(%d, %v) is %d", n, f, rank)
	}
	if !impl.IntersectIn(n, f) {
		return
	}
	for _, s := range f {
		if rank > len(pointsByHand(n, s)) {
			t.Errorf("IntersectRank(%d, %v) is %d, more than the points of %d", n, f, rank, s)
		}
	}
}

func TestPromise62IntersectRank(t *testing.T) {
	eachMeetingFamily(func(n int, f []int) {
		if len(f) > 0 && f[0] == 0 {
			wantNoRank(t, n, f)
			f = f[1:]
		}
		checkRank(t, n, f)
	})
}

// All sets of a size k are met by n - k + 1 points, and by no fewer: the rank is n for the sets of one point.
func TestIntersectRankOfFullLevels(t *testing.T) {
	for n := 1; n <= impl.PointsMax; n++ {
		for k := 1; k <= n; k++ {
			rank, ok := impl.IntersectRank(n, levelByHand(n, k))
			wantNumber(t, fmt.Sprintf("IntersectRank of all sets of %d points with the size %d", n, k), rank, ok, n-k+1)
		}
	}
}

// The results are worked out by hand.
func TestIntersectExamples(t *testing.T) {
	for _, x := range []struct {
		what      string
		n         int
		f         []int
		intersect bool
		grown     []int
		rank      int
	}{
		{"one set", 2, []int{1}, true, []int{1, 3}, 1},
		{"each two have a point, all have none", 3, []int{3, 5, 6}, true, []int{3, 5, 6, 7}, 2},
		{"the first two have none", 3, []int{1, 2, 3}, false, nil, 2},
		{"the first one and the last one have none", 3, []int{1, 3, 5, 6}, false, nil, 2},
		{"the last two have none", 4, []int{3, 7, 8}, false, nil, 2},
		{"a point for all", 4, []int{2, 6, 10}, true, []int{2, 3, 6, 7, 10, 11, 14, 15}, 1},
		{"two pairs of sets with no common point", 4, []int{3, 5, 10, 12}, false, nil, 2},
		{"three points are not enough", 4, []int{1, 2, 4, 8}, false, nil, 4},
		{"lesser sets come in first", 3, []int{7}, true, []int{1, 3, 5, 7}, 1},
		{"one less set comes in, and keeps others out", 4, []int{14}, true, []int{2, 3, 6, 7, 10, 11, 14, 15}, 1},
		{"half of all sets", 3, []int{4, 5, 6, 7}, true, []int{4, 5, 6, 7}, 1},
		{"seven lines of seven points", 7, []int{7, 25, 42, 52, 76, 82, 97}, true, nil, 3},
	} {
		if got := impl.IntersectIn(x.n, x.f); got != x.intersect {
			t.Errorf("%s: IntersectIn(%d, %v) is %v", x.what, x.n, x.f, got)
		}
		rank, ok := impl.IntersectRank(x.n, x.f)
		wantNumber(t, fmt.Sprintf("%s: IntersectRank(%d, %v)", x.what, x.n, x.f), rank, ok, x.rank)
		if !x.intersect {
			wantNoGrowth(t, x.n, x.f)
		} else if x.grown != nil {
			grown, ok := impl.IntersectGrow(x.n, x.f)
			wantList(t, fmt.Sprintf("%s: IntersectGrow(%d, %v)", x.what, x.n, x.f), grown, ok, x.grown)
		}
	}
}

// The results are worked out by hand.
func TestFlowerExamples(t *testing.T) {
	for _, x := range []struct {
		what   string
		n      int
		f      []int
		k      int
		leaves []int
		core   int
	}{
		{"one set, its own core", 4, []int{5, 6, 9}, 1, []int{5}, 5},
		{"two sets, whatever they have in common", 4, []int{7, 13, 14}, 2, []int{7, 13}, 5},
		{"two sets with nothing in common", 4, []int{3, 12, 15}, 2, []int{3, 12}, 0},
		{"two sets, one a part of the other one", 4, []int{4, 12}, 2, []int{4, 12}, 4},
		{"a core of one point", 4, []int{3, 5, 9}, 3, []int{3, 5, 9}, 1},
		{"a core of two points", 5, []int{7, 11, 19}, 3, []int{7, 11, 19}, 3},
		{"no core", 4, []int{1, 6, 8}, 3, []int{1, 6, 8}, 0},
		{"no core, with sets of two points", 6, []int{3, 12, 48}, 3, []int{3, 12, 48}, 0},
		{"a leaf is the core", 4, []int{1, 3, 5}, 3, []int{1, 3, 5}, 1},
		{"a leaf is the core, of two points", 5, []int{3, 7, 11, 19}, 4, []int{3, 7, 11, 19}, 3},
		{"each two have a point, but not the same one", 3, []int{3, 5, 6}, 3, nil, 0},
		{"each one has the core, but two have more", 4, []int{3, 7, 9}, 3, nil, 0},
		{"the second and the third have more than the core", 4, []int{3, 5, 13}, 3, nil, 0},
		{"the first two begin no flower", 4, []int{3, 7, 9, 13}, 3, nil, 0},
		{"the first two are leaves of none, a later one is", 4, []int{2, 3, 5, 9}, 3, []int{3, 5, 9}, 1},
		{"the second set is left out", 5, []int{3, 7, 13, 17}, 3, []int{3, 13, 17}, 1},
		{"the last set is needed", 5, []int{1, 2, 3, 7, 12}, 3, []int{1, 2, 12}, 0},
		{"several flowers, the first list", 4, []int{1, 2, 4, 8}, 3, []int{1, 2, 4}, 0},
		{"several flowers, the core of the first list is the greater one", 4, []int{3, 4, 5, 8, 9}, 3, []int{3, 4, 8}, 0},
		{"a flower of 3, none of 4", 4, []int{1, 2, 4, 7}, 4, nil, 0},
		{"four leaves", 4, []int{1, 2, 4, 8}, 4, []int{1, 2, 4, 8}, 0},
		{"four leaves among more sets", 5, []int{3, 5, 6, 9, 17}, 4, []int{3, 5, 9, 17}, 1},
		{"fewer sets than leaves", 4, []int{1, 2, 4}, 4, nil, 0},
		{"all points and one more set", 8, []int{1, 254}, 2, []int{1, 254}, 0},
	} {
		if free := impl.FlowerFree(x.n, x.f, x.k); free != (x.leaves == nil) {
			t.Errorf("%s: FlowerFree(%d, %v, %d) is %v", x.what, x.n, x.f, x.k, free)
		}
		if x.leaves == nil {
			wantNoFlower(t, x.n, x.f, x.k)
		} else {
			wantFlower(t, x.n, x.f, x.k, x.leaves, x.core)
		}
	}
}

// The results are worked out by hand.
func TestPairsExamples(t *testing.T) {
	for _, x := range []struct {
		what  string
		n     int
		a, b  []int
		skew  bool
		whole int
	}{
		{"no pair", 3, nil, nil, true, 0},
		{"no pair, empty lists", 3, []int{}, []int{}, true, 0},
		{"no pair, nil and an empty list", 3, nil, []int{}, true, 0},
		{"one pair of one point each", 3, []int{4}, []int{1}, true, 420},
		{"one pair with no point left", 4, []int{3}, []int{12}, true, 140},
		{"one pair, twice as many points in one set", 3, []int{1}, []int{6}, true, 280},
		{"one pair of three and of five points", 8, []int{7}, []int{248}, true, 15},
		{"one pair of four and of four points", 8, []int{15}, []int{240}, true, 12},
		{"one pair with a common point", 3, []int{3}, []int{6}, false, 0},
		{"the first set is empty", 3, []int{0}, []int{5}, true, 840},
		{"the second set is empty", 3, []int{5}, []int{0}, true, 840},
		{"both sets are empty", 3, []int{0}, []int{0}, true, 840},
		{"a pair of empty sets and another pair", 3, []int{0, 1}, []int{0, 2}, false, 0},
		{"the first set is empty, of two pairs", 3, []int{0, 1}, []int{1, 2}, false, 0},
		{"two pairs, one the other way round", 3, []int{1, 2}, []int{2, 1}, true, 840},
		{"two pairs in any order", 3, []int{2, 1}, []int{1, 2}, true, 840},
		{"two pairs of different sizes", 4, []int{1, 6}, []int{2, 9}, true, 420 + 140},
		{"three pairs with no point left", 3, []int{1, 2, 4}, []int{6, 5, 3}, true, 840},
		{"three pairs, one of fewer points", 4, []int{3, 12, 5}, []int{12, 1, 10}, true, 140 + 280 + 140},
		{"the same pair twice", 3, []int{1, 1}, []int{2, 2}, false, 0},
		{"the first pair does not meet the second one", 3, []int{1, 2}, []int{4, 1}, false, 0},
		{"the second pair does not meet the first one", 3, []int{2, 1}, []int{1, 4}, false, 0},
		{"the third pair does not meet the first one", 4, []int{1, 2, 8}, []int{2, 9, 1}, false, 0},
	} {
		if got := impl.PairsSkew(x.n, x.a, x.b); got != x.skew {
			t.Errorf("%s: PairsSkew(%d, %v, %v) is %v", x.what, x.n, x.a, x.b, got)
		}
		if x.skew {
			wantPairsWeight(t, x.n, x.a, x.b, x.whole)
		} else {
			wantNoPairsWeight(t, x.n, x.a, x.b)
		}
	}
}

// Each set of a size with the set of all other points has the weight 1, which no skew pairs go beyond.
func TestPairsWeightIsWholeForAllSetsOfASize(t *testing.T) {
	for n := 1; n <= impl.PointsMax; n++ {
		for k := range n + 1 {
			a, b := otherPairs(n, k, n)
			wantPairsWeight(t, n, a, b, 840)
		}
	}
}

// Stars of the sizes 1 and n have one set; with the size n this is the only one of its size.
func TestStarsAtTheirEnds(t *testing.T) {
	for n := 1; n <= impl.PointsMax; n++ {
		for p := range n {
			one, ok := impl.IntersectStar(n, 1, p)
			wantList(t, fmt.Sprintf("IntersectStar(%d, 1, %d)", n, p), one, ok, []int{power(p)})
			all, ok := impl.IntersectStar(n, n, p)
			wantList(t, fmt.Sprintf("IntersectStar(%d, %d, %d)", n, n, p), all, ok, []int{power(n) - 1})
		}
		one, ok := impl.IntersectMost(n, 1)
		wantNumber(t, fmt.Sprintf("IntersectMost(%d, 1)", n), one, ok, 1)
		all, ok := impl.IntersectMost(n, n)
		wantNumber(t, fmt.Sprintf("IntersectMost(%d, %d)", n, n), all, ok, 1)
	}
}

// The results are worked out by hand: sizes of which twice is less than n, is n and is more.
func TestStarAndMostExamples(t *testing.T) {
	for _, x := range []struct {
		n, k, p, most int
		star          []int
	}{
		{5, 2, 0, 4, []int{3, 5, 9, 17}},
		{5, 2, 2, 4, []int{5, 6, 12, 20}},
		{4, 2, 3, 3, []int{9, 10, 12}},
		{4, 3, 1, 4, []int{7, 11, 14}},
		{3, 2, 1, 3, []int{3, 6}},
		{8, 8, 7, 1, []int{255}},
		{2, 1, 1, 1, []int{2}},
		{1, 1, 0, 1, []int{1}},
	} {
		star, ok := impl.IntersectStar(x.n, x.k, x.p)
		wantList(t, fmt.Sprintf("IntersectStar(%d, %d, %d)", x.n, x.k, x.p), star, ok, x.star)
		most, ok := impl.IntersectMost(x.n, x.k)
		wantNumber(t, fmt.Sprintf("IntersectMost(%d, %d)", x.n, x.k), most, ok, x.most)
	}
	for k, want := range []int{0, 1, 7, 21, 35, 56, 28, 8, 1} {
		if most, ok := impl.IntersectMost(8, k); k > 0 {
			wantNumber(t, fmt.Sprintf("IntersectMost(8, %d)", k), most, ok, want)
		}
	}
}

// All functions that take a family are asked about the empty one.
func TestIntersectingOfTheEmptyFamily(t *testing.T) {
	for n := 1; n <= impl.PointsMax; n++ {
		all := where(n, func(s int) bool { return true })
		for _, f := range [][]int{nil, {}} {
			if !impl.IntersectIn(n, f) {
				t.Errorf("IntersectIn(%d, %v) does not hold", n, f)
			}
			for _, g := range [][]int{nil, {}, {0}, {power(n) - 1}, all} {
				if !impl.IntersectCross(n, f, g) || !impl.IntersectCross(n, g, f) {
					t.Errorf("IntersectCross does not hold for %d points, %v and %v", n, f, g)
				}
			}
			grown, ok := impl.IntersectGrow(n, f)
			wantList(t, fmt.Sprintf("IntersectGrow(%d, %v)", n, f), grown, ok, where(n, func(s int) bool { return s%2 == 1 }))
			for k := 1; k <= leavesMost; k++ {
				wantNoFlower(t, n, f, k)
				if !impl.FlowerFree(n, f, k) {
					t.Errorf("FlowerFree(%d, %v, %d) does not hold", n, f, k)
				}
			}
			rank, ok := impl.IntersectRank(n, f)
			wantNumber(t, fmt.Sprintf("IntersectRank(%d, %v)", n, f), rank, ok, 0)
		}
	}
}

// The empty set has no common point with itself, so it is asked for alone and among others. As a leaf it has
// nothing in common with the other leaves, and is the core.
func TestIntersectingOfFamiliesWithTheEmptySet(t *testing.T) {
	for n := 1; n <= impl.PointsMax; n++ {
		full := power(n) - 1
		all := where(n, func(s int) bool { return true })
		ones := levelByHand(n, 1)
		for _, f := range [][]int{{0}, {0, 1}, {0, full}, all, sortedUnion([]int{0}, ones), sortedUnion([]int{0}, starByHand(n, n, 0))} {
			if impl.IntersectIn(n, f) || impl.IntersectCross(n, f, []int{full}) || impl.IntersectCross(n, []int{full}, f) {
				t.Errorf("IntersectIn or IntersectCross holds for %d points and %v", n, f)
			}
			if impl.IntersectCross(n, f, []int{0}) || impl.IntersectCross(n, f, f) || !impl.IntersectCross(n, f, nil) {
				t.Errorf("IntersectCross does not hold for %d points, %v and no sets only", n, f)
			}
			wantNoGrowth(t, n, f)
			wantNoRank(t, n, f)
			wantFlower(t, n, f, 1, []int{0}, 0)
			if len(f) > 1 {
				wantFlower(t, n, f, 2, []int{0, f[1]}, 0)
			}
		}
		for k := 2; k <= leavesMost; k++ {
			f := sortedUnion([]int{0}, ones)
			if k > n+1 {
				wantNoFlower(t, n, f, k)
			} else {
				wantFlower(t, n, f, k, f[:k], 0)
				wantFlower(t, n, all, k, f[:k], 0)
			}
			wantNoFlower(t, n, []int{0}, k)
		}
	}
}

// The sets are alone here, so each one has itself only.
func TestIntersectingOfOneSet(t *testing.T) {
	eachSet(func(n, s int) {
		if s == 0 {
			return
		}
		f := []int{s}
		if !impl.IntersectIn(n, f) || !impl.IntersectCross(n, f, f) {
			t.Errorf("IntersectIn(%d, %v) does not hold", n, f)
		}
		rank, ok := impl.IntersectRank(n, f)
		wantNumber(t, fmt.Sprintf("IntersectRank(%d, %v)", n, f), rank, ok, 1)
		wantFlower(t, n, f, 1, f, s)
		wantNoFlower(t, n, f, 2)
	})
}

// Half of all sets with common points have no room for one more.
func TestIntersectGrowOfHalfOfAllSets(t *testing.T) {
	for n := 1; n <= impl.PointsMax; n++ {
		for seed := range 8 {
			half := meetingSets(allInDisorder(n, seed), power(n))
			if 2*len(half) != power(n) {
				t.Fatalf("%v are %d sets of %d points", half, len(half), n)
			}
			grown, ok := impl.IntersectGrow(n, half)
			wantList(t, fmt.Sprintf("IntersectGrow(%d, %v)", n, half), grown, ok, half)
			for _, s := range without(where(n, func(s int) bool { return true }), half) {
				wantNoGrowth(t, n, sortedUnion(half, []int{s}))
			}
		}
	}
}

// intersectCalls has each function that makes a family of a family, with numbers of leaves for which it succeeds
// for some families.
func intersectCalls() []familyCall {
	calls := []familyCall{{"IntersectGrow", impl.IntersectGrow}}
	for k := 1; k <= leavesMost; k++ {
		calls = append(calls, familyCall{fmt.Sprintf("FlowerOf with %d leaves", k), func(n int, f []int) ([]int, bool) {
			leaves, _, ok := impl.FlowerOf(n, f, k)
			return leaves, ok
		}})
	}
	return calls
}

func TestIntersectCallsOthers(t *testing.T) {
	for _, x := range badFamilies() {
		if impl.IntersectIn(x.n, x.list) {
			t.Errorf("IntersectIn(%d, %v) holds", x.n, x.list)
		}
		for _, g := range [][]int{nil, {}, {0}, {1}, x.list} {
			if impl.IntersectCross(x.n, x.list, g) || impl.IntersectCross(x.n, g, x.list) {
				t.Errorf("IntersectCross holds for %d points, %v and %v", x.n, x.list, g)
			}
		}
		wantNoGrowth(t, x.n, x.list)
		for k := 0; k <= leavesMost+1; k++ {
			wantNoFlower(t, x.n, x.list, k)
			if impl.FlowerFree(x.n, x.list, k) {
				t.Errorf("FlowerFree(%d, %v, %d) holds", x.n, x.list, k)
			}
		}
		wantNoRank(t, x.n, x.list)
	}
}

// Most lists of badFamilies have the empty set or a number that is none, so functions that ask only whether sets
// meet would fail for them too. These lists have neither.
func TestIntersectCallsOfSetsThatDoNotAscend(t *testing.T) {
	for n := 2; n <= impl.PointsMax; n++ {
		full := power(n) - 1
		for _, f := range [][]int{{1, 1}, {full, full}, {full, 1}, {3, 1}, {1, 3, 3}, {1, 1, 3}, {1, full, 1}} {
			if impl.IntersectIn(n, f) || impl.IntersectCross(n, f, []int{full}) || impl.IntersectCross(n, []int{full}, f) ||
				impl.IntersectCross(n, f, nil) || impl.IntersectCross(n, nil, f) {
				t.Errorf("IntersectIn or IntersectCross holds for %d points and %v", n, f)
			}
			wantNoGrowth(t, n, f)
			wantNoRank(t, n, f)
			for k := 1; k <= leavesMost; k++ {
				wantNoFlower(t, n, f, k)
				if impl.FlowerFree(n, f, k) {
					t.Errorf("FlowerFree(%d, %v, %d) holds", n, f, k)
				}
			}
		}
	}
}

func TestFlowersOfNoNumberOfLeaves(t *testing.T) {
	for n := 1; n <= impl.PointsMax; n++ {
		all := where(n, func(s int) bool { return true })
		for _, f := range [][]int{nil, {}, {0}, {1}, levelByHand(n, 1), all} {
			for _, k := range []int{math.MinInt, -4, -1, 0, 5, 6, len(f) + 5, 1 << 32, 1<<32 + 1, math.MaxInt} {
				wantNoFlower(t, n, f, k)
				if impl.FlowerFree(n, f, k) {
					t.Errorf("FlowerFree(%d, %v, %d) holds", n, f, k)
				}
			}
		}
	}
}

func wantNoStar(t *testing.T, n, k, p int) {
	t.Helper()
	star, ok := impl.IntersectStar(n, k, p)
	wantNoList(t, fmt.Sprintf("IntersectStar(%d, %d, %d)", n, k, p), star, ok)
}

func TestStarAndMostOthers(t *testing.T) {
	for n := 1; n <= impl.PointsMax; n++ {
		for _, k := range []int{math.MinInt, -n, -1, 0, n + 1, n + 2, 64, 1<<32 + 1, math.MaxInt} {
			for _, p := range append(badPoints(n), 0, n-1) {
				wantNoStar(t, n, k, p)
			}
			most, ok := impl.IntersectMost(n, k)
			wantNoNumber(t, fmt.Sprintf("IntersectMost(%d, %d)", n, k), most, ok)
		}
		for k := 1; k <= n; k++ {
			for _, p := range badPoints(n) {
				wantNoStar(t, n, k, p)
			}
		}
	}
	for _, n := range badCounts {
		for _, k := range []int{math.MinInt, -1, 0, 1, 4, n, n - 1, math.MaxInt} {
			for _, p := range []int{-1, 0, 1, n - 1, n} {
				wantNoStar(t, n, k, p)
			}
			most, ok := impl.IntersectMost(n, k)
			wantNoNumber(t, fmt.Sprintf("IntersectMost(%d, %d)", n, k), most, ok)
		}
	}
}

func wantNoPairs(t *testing.T, n int, a, b []int) {
	t.Helper()
	if impl.PairsSkew(n, a, b) {
		t.Errorf("PairsSkew(%d, %v, %v) holds", n, a, b)
	}
	wantNoPairsWeight(t, n, a, b)
}

func TestPairsOthers(t *testing.T) {
	for _, x := range badLists() {
		for _, other := range [][]int{nil, {0}, {1}, {0, 1}, {1, 2, 4}, x.list} {
			wantNoPairs(t, x.n, x.list, other)
			wantNoPairs(t, x.n, other, x.list)
		}
	}
}

// A number that is no set stands in one place of pairs that are skew otherwise, or its points of the range are.
func TestPairsWithOneNumberThatIsNoSet(t *testing.T) {
	for n := 1; n <= impl.PointsMax; n++ {
		a, b := otherPairs(n, 1, n)
		for i := range a {
			for _, more := range []int{power(n), -power(n), 1 << 32, math.MinInt} {
				badA, badB := slices.Clone(a), slices.Clone(b)
				badA[i] += more
				badB[i] += more
				wantNoPairs(t, n, badA, b)
				wantNoPairs(t, n, a, badB)
			}
		}
	}
}

// One list has a set more than the other one, at its end or its beginning.
func TestPairsOfDifferentLengths(t *testing.T) {
	eachSkewPairs(func(n int, a, b []int) {
		for _, s := range []int{0, 1, power(n) - 1} {
			wantNoPairs(t, n, append(slices.Clone(a), s), b)
			wantNoPairs(t, n, a, append(slices.Clone(b), s))
			wantNoPairs(t, n, append([]int{s}, a...), b)
			wantNoPairs(t, n, a, append([]int{s}, b...))
		}
		if len(a) > 0 {
			wantNoPairs(t, n, a[1:], b)
			wantNoPairs(t, n, a, b[:len(b)-1])
			wantNoPairs(t, n, a, nil)
			wantNoPairs(t, n, nil, b)
		}
	})
}

func TestIntersectingFamiliesAreNewMemory(t *testing.T) {
	check := func(n int, f []int) {
		for _, c := range intersectCalls() {
			if _, ok := c.call(n, f); ok {
				checkNewMemory(t, c, n, f)
			}
		}
	}
	eachFamily(check)
	for n := 4; n <= impl.PointsMax; n++ {
		for _, f := range intersectingFamilies(n) {
			check(n, f)
		}
	}
}

func TestStarsAreNewMemory(t *testing.T) {
	for n := 1; n <= impl.PointsMax; n++ {
		for k := 1; k <= n; k++ {
			call := func(n int, f []int) ([]int, bool) { return impl.IntersectStar(n, k, n-1) }
			checkNewMemory(t, familyCall{fmt.Sprintf("IntersectStar with the size %d", k), call}, n, nil)
		}
	}
}

func TestIntersectingCallsLeaveTheirArguments(t *testing.T) {
	check := func(n int, a, b []int) {
		first, second := append(slices.Clone(a), 0, 1, 0, 1), append(slices.Clone(b), 0, 1, 0, 1)
		firstBefore, secondBefore := slices.Clone(first), slices.Clone(second)
		f, g := first[:len(a)], second[:len(b)]
		impl.IntersectIn(n, f)
		impl.IntersectCross(n, f, g)
		impl.FlowerFree(n, f, 3)
		impl.PairsSkew(n, f, g)
		impl.PairsWeight(n, f, g)
		impl.IntersectRank(n, f)
		impl.IntersectGrow(n, f)
		if !slices.Equal(first, firstBefore) || !slices.Equal(second, secondBefore) {
			t.Errorf("the lists %v and %v of %d points were changed to %v and %v", firstBefore, secondBefore, n, first, second)
		}
	}
	eachSkewPairs(check)
	eachSkewPairs(func(n int, a, b []int) { check(n, sortedUnion(a), sortedUnion(b)) })
	eachFamily(func(n int, f []int) { check(n, f, f) })
}

// intersectAnswers tells what each function of the chapter makes of a family, and of the numbers that its length names.
func intersectAnswers(n int, f []int) []string {
	var out []string
	for _, c := range intersectCalls() {
		list, ok := c.call(n, f)
		out = append(out, fmt.Sprint(list, ok))
	}
	for k := range leavesMost + 2 {
		leaves, core, ok := impl.FlowerOf(n, f, k)
		out = append(out, fmt.Sprint(leaves, core, ok, impl.FlowerFree(n, f, k)))
	}
	k := len(f)
	star, starOk := impl.IntersectStar(n, k, k-1)
	most, mostOk := impl.IntersectMost(n, k)
	whole, bottom, weightOk := impl.PairsWeight(n, f, reversed(f))
	rank, rankOk := impl.IntersectRank(n, f)
	return append(out, fmt.Sprint(impl.IntersectIn(n, f), impl.IntersectCross(n, f, f[:k/2]), star, starOk, most, mostOk,
		impl.PairsSkew(n, f, reversed(f)), whole, bottom, weightOk, rank, rankOk))
}

func TestIntersectingKeepsNoState(t *testing.T) {
	checkNoState(t, intersectAnswers)
}
