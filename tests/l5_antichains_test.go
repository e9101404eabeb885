package tests

import (
	"cmp"
	"fmt"
	"slices"
	"testing"

	"loop.example/setshadows/impl"
)

// wideMost is the greatest number of sets that the document lets ChainWide take.
const wideMost = 14

// partByHand goes through the points from 0 on.
func partByHand(a, b int) bool {
	for ; a > 0; a, b = a/2, b/2 {
		if a%2 > b%2 {
			return false
		}
	}
	return true
}

func antichainByHand(f []int) bool {
	for i, a := range f {
		for j, b := range f {
			if i != j && partByHand(a, b) {
				return false
			}
		}
	}
	return true
}

// closedDownByHand goes down from the greatest number, by one point at a time.
func closedDownByHand(n int, f []int) []int {
	in := members(f)
	for s := power(n) - 1; s >= 0; s-- {
		for p := range n {
			if s/power(p)%2 == 0 && in[s+power(p)] {
				in[s] = true
			}
		}
	}
	return where(n, func(s int) bool { return in[s] })
}

// closedUpByHand goes up from the least number, by one point at a time.
func closedUpByHand(n int, f []int) []int {
	in := members(f)
	for s := range power(n) {
		for p := range n {
			if s/power(p)%2 == 1 && in[s-power(p)] {
				in[s] = true
			}
		}
	}
	return where(n, func(s int) bool { return in[s] })
}

// without lists what of one list is not in another one.
func without(f, g []int) []int {
	in := members(g)
	return pick(f, func(i int) bool { return !in[f[i]] })
}

// topByHand leaves out what lies below a part of one of the sets.
func topByHand(n int, f []int) []int {
	return without(f, shadowByHand(n, closedDownByHand(n, f)))
}

func bottomByHand(n int, f []int) []int {
	return without(f, upperByHand(n, closedUpByHand(n, f)))
}

// longByHand takes the top sets away until none is left: each time just one of the sets of each longest list goes.
func longByHand(n int, f []int) int {
	rounds := 0
	for len(f) > 0 {
		f = without(f, topByHand(n, f))
		rounds++
	}
	return rounds
}

// wideByHand tries all parts of a family. A code has a bit for each of its sets.
func wideByHand(f []int) int {
	clash := make([]int, len(f))
	for i, a := range f {
		for j, b := range f[:i] {
			if partByHand(a, b) || partByHand(b, a) {
				clash[i] |= 1 << j
			}
		}
	}
	wide := 0
	anti := make([]bool, 1<<len(f))
	anti[0] = true
	for last := range f {
		for rest := range 1 << last {
			if anti[rest] && rest&clash[last] == 0 {
				anti[rest+1<<last] = true
				wide = max(wide, 1+onesIn(uint32(rest)))
			}
		}
	}
	return wide
}

// bottomsByHand has the common bottom for each number of points from 0 on.
var bottomsByHand = []int{1, 1, 2, 3, 12, 10, 60, 105, 280}

// factorial is the number of ways to put k points in order.
func factorial(k int) int {
	ways := 1
	for i := range k {
		ways *= i + 1
	}
	return ways
}

// wholeByHand counts the orders of all points in which the points of some set come first, once for each such set:
// the weight is their part of all orders.
func wholeByHand(n int, f []int) int {
	orders := 0
	for _, s := range f {
		k := len(pointsByHand(n, s))
		orders += factorial(k) * factorial(n-k)
	}
	return orders * bottomsByHand[n] / factorial(n)
}

// pairsByHand takes out, again and again, two points of which the lesser one is not in the set and the greater one
// is, with no point left between them.
func pairsByHand(n, s int) []int {
	pairs := slices.Repeat([]int{-1}, n)
	var left []int
	for p := range n {
		left = append(left, p)
	}
	for i := 0; i+1 < len(left); {
		a, b := left[i], left[i+1]
		if s/power(a)%2 == 0 && s/power(b)%2 == 1 {
			pairs[a], pairs[b] = b, a
			left = slices.Delete(left, i, i+2)
			i = 0
		} else {
			i++
		}
	}
	return pairs
}

// bySize puts sets in the order of their sizes.
func bySize(n int, sets []int) []int {
	slices.SortFunc(sets, func(a, b int) int { return cmp.Compare(len(pointsByHand(n, a)), len(pointsByHand(n, b))) })
	return sets
}

// chainByHand looks for the sets with the same pairs.
func chainByHand(n, s int) []int {
	pairs := pairsByHand(n, s)
	return bySize(n, where(n, func(x int) bool { return slices.Equal(pairsByHand(n, x), pairs) }))
}

// fewOf takes m of some sets, without a rule that one could see.
func fewOf(sets []int, m, seed int) []int {
	few := inDisorder(sets, seed)
	few = few[:min(m, len(few))]
	slices.Sort(few)
	return few
}

// chainFrom puts in one point after the other, beginning with the point p.
func chainFrom(n, p int) []int {
	chain := []int{0}
	for i := range n {
		chain = append(chain, chain[i]+power((p+i)%n))
	}
	return chain
}

// sortedUnion joins lists of sets.
func sortedUnion(lists ...[]int) []int {
	all := slices.Concat(lists...)
	slices.Sort(all)
	return slices.Compact(all)
}

// smallFamilies has families of at most wideMost sets: of all sizes, of the sizes about the middle, and along chains.
func smallFamilies(n int) [][]int {
	all := where(n, func(s int) bool { return true })
	middle := sortedUnion(levelByHand(n, n/2-1), levelByHand(n, n/2), levelByHand(n, n/2+1))
	var out [][]int
	for seed := range 20 {
		p, q := seed%n, (seed+1+seed/n)%n
		for m := range wideMost + 1 {
			out = append(out,
				fewOf(all, m, seed),
				fewOf(middle, m, seed),
				fewOf(chainFrom(n, p), m, seed),
				fewOf(sortedUnion(chainFrom(n, p), chainFrom(n, q)), m, seed))
		}
	}
	return out
}

// eachSmallFamily calls a check for all families of up to four points and some others, each of at most wideMost sets.
func eachSmallFamily(check func(n int, f []int)) {
	checkSmall := func(n int, f []int) {
		if len(f) <= wideMost {
			check(n, f)
		}
	}
	eachOfManyFamilies(checkSmall)
	eachFamilyOfFourPoints(func(f []int) { checkSmall(4, f) })
	for n := 5; n <= impl.PointsMax; n++ {
		for _, f := range smallFamilies(n) {
			checkSmall(n, f)
		}
	}
}

// eachChainFamily calls a check for families of any number of sets, and those of eachSmallFamily.
func eachChainFamily(check func(n int, f []int)) {
	eachOfManyFamilies(check)
	eachFamilyOfFourPoints(func(f []int) { check(4, f) })
	for n := 5; n <= impl.PointsMax; n++ {
		for _, f := range smallFamilies(n) {
			check(n, f)
		}
	}
}

func TestPromise39AntichainInOfOneSize(t *testing.T) {
	eachChainFamily(func(n int, f []int) {
		if !impl.ShadowEven(n, f) {
			return
		}
		other, _ := impl.FamilyOther(n, f)
		if !impl.AntichainIn(n, f) || !impl.ShadowEven(n, other) || !impl.AntichainIn(n, other) {
			t.Errorf("for %d points, all sets of %v have one size, but AntichainIn does not hold for it, or not both for %v", n, f, other)
		}
	})
}

func TestPromise40ProfileOfClosedDown(t *testing.T) {
	eachChainFamily(func(n int, f []int) {
		closed, _ := impl.ClosedDown(n, f)
		profile, ok := impl.FamilyProfile(n, closed)
		if !ok || !impl.ShadowProfile(n, profile) {
			t.Errorf("ShadowProfile(%d, %v) does not hold for ClosedDown of %v", n, profile, f)
		}
	})
}

func TestPromise41AntichainIn(t *testing.T) {
	eachChainFamily(func(n int, f []int) {
		want := antichainByHand(f)
		if got := impl.AntichainIn(n, f); got != want {
			t.Errorf("AntichainIn(%d, %v) is %v, want %v", n, f, got, want)
		}
		if !want {
			return
		}
		whole, bottom, ok := impl.WeightOf(n, f)
		if ways, _ := impl.Choose(n, n/2); !ok || whole > bottom || len(f) > ways {
			t.Errorf("the antichain %v of %d points has the weight %d over %d, %v", f, n, whole, bottom, ok)
		}
	})
}

func TestPromise42AntichainTop(t *testing.T) {
	eachChainFamily(func(n int, f []int) {
		top, ok := impl.AntichainTop(n, f)
		wantList(t, fmt.Sprintf("AntichainTop(%d, %v)", n, f), top, ok, topByHand(n, f))
		if !impl.AntichainIn(n, top) {
			t.Errorf("AntichainTop(%d, %v) is %v, which is no antichain", n, f, top)
		}
		down, _ := impl.ClosedDown(n, f)
		downOfTop, ok := impl.ClosedDown(n, top)
		wantList(t, fmt.Sprintf("ClosedDown(%d, %v)", n, top), downOfTop, ok, down)
		again, ok := impl.AntichainTop(n, top)
		wantList(t, fmt.Sprintf("AntichainTop(%d, %v)", n, top), again, ok, top)
	})
}

func TestPromise43AntichainBottom(t *testing.T) {
	eachChainFamily(func(n int, f []int) {
		bottom, ok := impl.AntichainBottom(n, f)
		wantList(t, fmt.Sprintf("AntichainBottom(%d, %v)", n, f), bottom, ok, bottomByHand(n, f))
		other, _ := impl.FamilyOther(n, f)
		top, _ := impl.AntichainTop(n, other)
		otherBottom, ok := impl.FamilyOther(n, bottom)
		wantList(t, fmt.Sprintf("FamilyOther(%d, %v)", n, bottom), otherBottom, ok, top)
	})
}

func TestPromise44ClosedDown(t *testing.T) {
	eachChainFamily(func(n int, f []int) {
		closed, ok := impl.ClosedDown(n, f)
		wantList(t, fmt.Sprintf("ClosedDown(%d, %v)", n, f), closed, ok, closedDownByHand(n, f))
		again, ok := impl.ClosedDown(n, closed)
		wantList(t, fmt.Sprintf("ClosedDown(%d, %v)", n, closed), again, ok, closed)
		shadow, _ := impl.ShadowOf(n, closed)
		if !isPart(f, closed) || !isPart(shadow, closed) {
			t.Errorf("ClosedDown(%d, %v) is %v, which lacks a set of the family or of its own shadow", n, f, closed)
		}
	})
}

func TestPromise45ClosedUp(t *testing.T) {
	eachChainFamily(func(n int, f []int) {
		closed, ok := impl.ClosedUp(n, f)
		wantList(t, fmt.Sprintf("ClosedUp(%d, %v)", n, f), closed, ok, closedUpByHand(n, f))
		other, _ := impl.FamilyOther(n, f)
		down, _ := impl.ClosedDown(n, other)
		otherClosed, ok := impl.FamilyOther(n, closed)
		wantList(t, fmt.Sprintf("FamilyOther(%d, %v)", n, closed), otherClosed, ok, down)
	})
}

func wantWeight(t *testing.T, n int, f []int, want int) {
	t.Helper()
	whole, bottom, ok := impl.WeightOf(n, f)
	if !ok || whole != want || bottom != bottomsByHand[n] {
		t.Errorf("WeightOf(%d, %v) returned %d, %d, %v, want %d, %d, true", n, f, whole, bottom, ok, want, bottomsByHand[n])
	}
}

func TestPromise46WeightOf(t *testing.T) {
	eachChainFamily(func(n int, f []int) {
		wantWeight(t, n, f, wholeByHand(n, f))
		whole, bottom, _ := impl.WeightOf(n, f)
		other, _ := impl.FamilyOther(n, f)
		wantWeight(t, n, other, whole)
		rest, _ := impl.FamilyRest(n, f)
		wantWeight(t, n, rest, (n+1)*bottom-whole)
	})
}

// pairsByRule follows the words of the document.
func pairsByRule(n, s int) []int {
	pairs := slices.Repeat([]int{-1}, n)
	for p := range n {
		if s/power(p)%2 == 0 {
			continue
		}
		for ahead := p - 1; ahead >= 0; ahead-- {
			if s/power(ahead)%2 == 0 && pairs[ahead] == -1 {
				pairs[p], pairs[ahead] = ahead, p
				break
			}
		}
	}
	return pairs
}

func checkPairs(t *testing.T, n, s int) {
	t.Helper()
	pairs, ok := impl.ChainPairs(n, s)
	wantList(t, fmt.Sprintf("ChainPairs(%d, %d)", n, s), pairs, ok, pairsByHand(n, s))
	wantList(t, fmt.Sprintf("ChainPairs(%d, %d)", n, s), pairs, ok, pairsByRule(n, s))
	points := pointsByHand(n, s)
	for p, partner := range pairs {
		if partner == -1 {
			continue
		}
		lesser, greater := min(p, partner), max(p, partner)
		if lesser == greater || pairs[partner] != p || slices.Contains(points, lesser) || !slices.Contains(points, greater) {
			t.Errorf("ChainPairs(%d, %d) is %v, in which %d and %d are no pair", n, s, pairs, p, partner)
		}
	}
}

func TestPromise47ChainPairs(t *testing.T) {
	eachSet(func(n, s int) { checkPairs(t, n, s) })
}

func checkChain(t *testing.T, n, s int) {
	t.Helper()
	chain, ok := impl.ChainOf(n, s)
	wantList(t, fmt.Sprintf("ChainOf(%d, %d)", n, s), chain, ok, chainByHand(n, s))
	if !slices.Contains(chain, s) {
		t.Fatalf("ChainOf(%d, %d) is %v, without the set", n, s, chain)
	}
	for i, x := range chain {
		same, ok := impl.ChainOf(n, x)
		wantList(t, fmt.Sprintf("ChainOf(%d, %d)", n, x), same, ok, chain)
		if i > 0 && (!partByHand(chain[i-1], x) || len(pointsByHand(n, x)) != len(pointsByHand(n, chain[i-1]))+1) {
			t.Errorf("ChainOf(%d, %d) is %v, in which %d is not one point more", n, s, chain, x)
		}
	}
	if first, last := chain[0], chain[len(chain)-1]; len(pointsByHand(n, first))+len(pointsByHand(n, last)) != n {
		t.Errorf("ChainOf(%d, %d) is %v, from %d to %d", n, s, chain, first, last)
	}
}

func TestPromise48ChainOf(t *testing.T) {
	eachSet(func(n, s int) { checkChain(t, n, s) })
}

// chainsByHand has the chain of each set that is the first one of its chain.
func chainsByHand(n int) [][]int {
	var chains [][]int
	for s := range power(n) {
		if chain := chainByHand(n, s); chain[0] == s {
			chains = append(chains, chain)
		}
	}
	return chains
}

func wantChains(t *testing.T, n int, got [][]int, ok bool, want [][]int) {
	t.Helper()
	if !ok || !slices.EqualFunc(got, want, slices.Equal[[]int]) {
		t.Errorf("ChainAll(%d) returned %v, %v, want %v, true", n, got, ok, want)
	}
}

func TestPromise49ChainAll(t *testing.T) {
	for n := 1; n <= impl.PointsMax; n++ {
		chains, ok := impl.ChainAll(n)
		wantChains(t, n, chains, ok, chainsByHand(n))
		if ways, _ := impl.Choose(n, n/2); len(chains) != ways {
			t.Errorf("ChainAll(%d) has %d chains, want %d", n, len(chains), ways)
		}
		all := slices.Concat(chains...)
		slices.Sort(all)
		wantList(t, fmt.Sprintf("the sets of ChainAll(%d)", n), all, ok, where(n, func(s int) bool { return true }))
		for i := 1; i < len(chains); i++ {
			if chains[i-1][0] >= chains[i][0] {
				t.Errorf("ChainAll(%d) has the chain %v behind %v", n, chains[i], chains[i-1])
			}
		}
	}
}

func TestPromise50ChainWide(t *testing.T) {
	eachSmallFamily(func(n int, f []int) {
		wide, ok := impl.ChainWide(n, f)
		wantNumber(t, fmt.Sprintf("ChainWide(%d, %v)", n, f), wide, ok, wideByHand(f))
		if long, _ := impl.ChainLong(n, f); wide*long < len(f) {
			t.Errorf("ChainWide(%d, %v) is %d, ChainLong %d", n, f, wide, long)
		}
		if (wide == len(f)) != impl.AntichainIn(n, f) {
			t.Errorf("ChainWide(%d, %v) is %d for %d sets, AntichainIn is %v", n, f, wide, len(f), impl.AntichainIn(n, f))
		}
	})
}

func TestPromise51ChainLong(t *testing.T) {
	eachChainFamily(func(n int, f []int) {
		long, ok := impl.ChainLong(n, f)
		wantNumber(t, fmt.Sprintf("ChainLong(%d, %v)", n, f), long, ok, longByHand(n, f))
		if long > n+1 || (long <= 1) != impl.AntichainIn(n, f) {
			t.Errorf("ChainLong(%d, %v) is %d, AntichainIn is %v", n, f, long, impl.AntichainIn(n, f))
		}
		other, _ := impl.FamilyOther(n, f)
		otherLong, ok := impl.ChainLong(n, other)
		wantNumber(t, fmt.Sprintf("ChainLong(%d, %v)", n, other), otherLong, ok, long)
	})
}

// antichainCase has what the functions of the chapter tell of a family; wide is -1 if ChainWide fails.
type antichainCase struct {
	n                 int
	f, top, bottom    []int
	down, up          []int
	antichain         bool
	whole, wide, long int
}

func checkAntichainCase(t *testing.T, x antichainCase) {
	t.Helper()
	if got := impl.AntichainIn(x.n, x.f); got != x.antichain {
		t.Errorf("AntichainIn(%d, %v) is %v", x.n, x.f, got)
	}
	for _, c := range []struct {
		name string
		call func(n int, f []int) ([]int, bool)
		want []int
	}{
		{"AntichainTop", impl.AntichainTop, x.top},
		{"AntichainBottom", impl.AntichainBottom, x.bottom},
		{"ClosedDown", impl.ClosedDown, x.down},
		{"ClosedUp", impl.ClosedUp, x.up},
	} {
		got, ok := c.call(x.n, x.f)
		wantList(t, fmt.Sprintf("%s(%d, %v)", c.name, x.n, x.f), got, ok, c.want)
	}
	wantWeight(t, x.n, x.f, x.whole)
	wide, ok := impl.ChainWide(x.n, x.f)
	if x.wide == -1 {
		wantNoNumber(t, fmt.Sprintf("ChainWide(%d, %v)", x.n, x.f), wide, ok)
	} else {
		wantNumber(t, fmt.Sprintf("ChainWide(%d, %v)", x.n, x.f), wide, ok, x.wide)
	}
	long, ok := impl.ChainLong(x.n, x.f)
	wantNumber(t, fmt.Sprintf("ChainLong(%d, %v)", x.n, x.f), long, ok, x.long)
}

// The results are worked out by hand.
func TestAntichainExamples(t *testing.T) {
	for _, x := range []antichainCase{
		// A chain with a set missing between both: the first one is a part of the other one still.
		{n: 3, f: []int{1, 7}, top: []int{7}, bottom: []int{1}, down: []int{0, 1, 2, 3, 4, 5, 6, 7}, up: []int{1, 3, 5, 7},
			whole: 1 + 3, wide: 1, long: 2},
		// An antichain of two sizes.
		{n: 3, f: []int{1, 6}, top: []int{1, 6}, bottom: []int{1, 6}, down: []int{0, 1, 2, 4, 6}, up: []int{1, 3, 5, 6, 7},
			antichain: true, whole: 2, wide: 2, long: 1},
		// One set is a part of all others, of which none is a part of another one.
		{n: 4, f: []int{1, 3, 5, 9}, top: []int{3, 5, 9}, bottom: []int{1}, down: []int{0, 1, 2, 3, 4, 5, 8, 9},
			up: []int{1, 3, 5, 7, 9, 11, 13, 15}, whole: 3 + 2 + 2 + 2, wide: 3, long: 2},
		// All others are parts of one set.
		{n: 4, f: []int{1, 2, 4, 7}, top: []int{7}, bottom: []int{1, 2, 4}, down: []int{0, 1, 2, 3, 4, 5, 6, 7},
			up: []int{1, 2, 3, 4, 5, 6, 7, 9, 10, 11, 12, 13, 14, 15}, whole: 3 * 4, wide: 3, long: 2},
		// The longest list begins with neither of the first two sets.
		{n: 5, f: []int{1, 2, 4, 12, 17, 28}, top: []int{2, 17, 28}, bottom: []int{1, 2, 4},
			down: []int{0, 1, 2, 4, 8, 12, 16, 17, 20, 24, 28}, up: closedUpByHand(5, []int{1, 2, 4}),
			whole: 2 + 2 + 2 + 1 + 1 + 1, wide: 3, long: 3},
		// Two lists go on with the same sets.
		{n: 4, f: []int{1, 2, 3, 7}, top: []int{7}, bottom: []int{1, 2}, down: []int{0, 1, 2, 3, 4, 5, 6, 7},
			up: closedUpByHand(4, []int{1, 2}), whole: 3 + 3 + 2 + 3, wide: 2, long: 3},
		// The greatest antichain has sets of two sizes.
		{n: 4, f: []int{0, 1, 3, 5, 14}, top: []int{3, 5, 14}, bottom: []int{0}, down: []int{0, 1, 2, 3, 4, 5, 6, 8, 10, 12, 14},
			up: where(4, func(s int) bool { return true }), whole: 12 + 3 + 2 + 2 + 3, wide: 3, long: 3},
	} {
		checkAntichainCase(t, x)
	}
}

func TestAntichainEdges(t *testing.T) {
	for n := 1; n <= impl.PointsMax; n++ {
		full, bottom := power(n)-1, bottomsByHand[n]
		all := where(n, func(s int) bool { return true })
		wideOfAll := -1
		if len(all) <= wideMost {
			wideOfAll = triangle(n)[n][n/2]
		}
		for _, x := range []antichainCase{
			{n: n, f: nil, antichain: true},
			{n: n, f: []int{}, antichain: true},
			{n: n, f: []int{0}, top: []int{0}, bottom: []int{0}, down: []int{0}, up: all, antichain: true, whole: bottom, wide: 1, long: 1},
			{n: n, f: []int{full}, top: []int{full}, bottom: []int{full}, down: all, up: []int{full}, antichain: true, whole: bottom, wide: 1, long: 1},
			{n: n, f: []int{0, full}, top: []int{full}, bottom: []int{0}, down: all, up: all, whole: 2 * bottom, wide: 1, long: 2},
			{n: n, f: all, top: []int{full}, bottom: []int{0}, down: all, up: all, whole: (n + 1) * bottom, wide: wideOfAll, long: n + 1},
		} {
			checkAntichainCase(t, x)
		}
	}
}

func TestAntichainOfFullLevels(t *testing.T) {
	for n := 1; n <= impl.PointsMax; n++ {
		for k := 0; k <= n; k++ {
			level := levelByHand(n, k)
			wide := len(level)
			if wide > wideMost {
				wide = -1
			}
			checkAntichainCase(t, antichainCase{
				n: n, f: level, top: level, bottom: level,
				down:      where(n, func(s int) bool { return len(pointsByHand(n, s)) <= k }),
				up:        where(n, func(s int) bool { return len(pointsByHand(n, s)) >= k }),
				antichain: true, whole: bottomsByHand[n], wide: wide, long: 1,
			})
		}
	}
}

// Each part of a chain from the empty set to the set of all points is a family of which each set is a part of the next one.
func TestAntichainOfFamiliesThatAreChains(t *testing.T) {
	for n := 1; n <= impl.PointsMax; n++ {
		for p := range n {
			chain := chainFrom(n, p)
			for code := 1; code < power(n+1); code++ {
				sets := pick(chain, func(i int) bool { return code>>i&1 == 1 })
				first, last := sets[0], sets[len(sets)-1]
				f := sortedUnion(sets)
				checkAntichainCase(t, antichainCase{
					n: n, f: f, top: []int{last}, bottom: []int{first},
					down:      where(n, func(s int) bool { return partByHand(s, last) }),
					up:        where(n, func(s int) bool { return partByHand(first, s) }),
					antichain: len(f) == 1, whole: wholeByHand(n, f), wide: 1, long: len(f),
				})
			}
		}
	}
}

// A set that is a part of all others, or of which all others are parts, is put to an antichain.
func TestAntichainWithOneSetBelowOrAboveAllOthers(t *testing.T) {
	for n := 2; n <= impl.PointsMax; n++ {
		full := power(n) - 1
		all := where(n, func(s int) bool { return true })
		for k := 1; k < n; k++ {
			level := levelByHand(n, k)
			level = level[:min(len(level), wideMost-1)]
			below := sortedUnion([]int{0}, level)
			checkAntichainCase(t, antichainCase{
				n: n, f: below, top: level, bottom: []int{0}, down: closedDownByHand(n, level), up: all,
				whole: wholeByHand(n, below), wide: len(level), long: 2,
			})
			above := sortedUnion(level, []int{full})
			checkAntichainCase(t, antichainCase{
				n: n, f: above, top: []int{full}, bottom: level, down: all, up: closedUpByHand(n, level),
				whole: wholeByHand(n, above), wide: len(level), long: 2,
			})
		}
	}
}

// The results are worked out by hand.
func TestChainExamples(t *testing.T) {
	for _, x := range []struct {
		what         string
		text         string
		pairs, chain []int
	}{
		{"no point in the set", "0000", []int{-1, -1, -1, -1}, []int{0, 1, 3, 7, 15}},
		{"all points in the set", "1111", []int{-1, -1, -1, -1}, []int{0, 1, 3, 7, 15}},
		{"the points in the set ahead of the others", "1100", []int{-1, -1, -1, -1}, []int{0, 1, 3, 7, 15}},
		{"one pair behind the other", "0101", []int{1, 0, 3, 2}, []int{10}},
		{"one pair in the other", "0011", []int{3, 2, 1, 0}, []int{12}},
		{"a point in the set with none ahead of it", "1001", []int{-1, -1, 3, 2}, []int{8, 9, 11}},
		{"a point in the set behind a pair", "0110", []int{1, 0, -1, -1}, []int{2, 6, 14}},
		{"the last point ahead, not the first one", "0010", []int{-1, 2, 1, -1}, []int{4, 5, 13}},
		{"two that follow one another behind three", "00011", []int{-1, 4, 3, 2, 1}, []int{24, 25}},
		{"three that follow one another behind two", "00111", []int{3, 2, 1, 0, -1}, []int{12, 28}},
		{"pairs in a pair", "00101011", []int{7, 2, 1, 4, 3, 6, 5, 0}, []int{212}},
		{"pairs between single points", "10110001", []int{-1, 2, 1, -1, -1, -1, 7, 6}, []int{132, 133, 141, 157, 189}},
		{"four behind four", "00001111", []int{7, 6, 5, 4, 3, 2, 1, 0}, []int{240}},
		{"one point, not in the set", "0", []int{-1}, []int{0, 1}},
		{"one point, in the set", "1", []int{-1}, []int{0, 1}},
		{"two points, of which the greater one is in the set", "01", []int{1, 0}, []int{2}},
	} {
		n := len(x.text)
		s, _ := impl.SetRead(n, x.text)
		pairs, ok := impl.ChainPairs(n, s)
		wantList(t, fmt.Sprintf("%s: ChainPairs(%d, %d)", x.what, n, s), pairs, ok, x.pairs)
		chain, ok := impl.ChainOf(n, s)
		wantList(t, fmt.Sprintf("%s: ChainOf(%d, %d)", x.what, n, s), chain, ok, x.chain)
	}
}

func TestChainAllExamples(t *testing.T) {
	for n, want := range map[int][][]int{
		1: {{0, 1}},
		2: {{0, 1, 3}, {2}},
		3: {{0, 1, 3, 7}, {2, 6}, {4, 5}},
		4: {{0, 1, 3, 7, 15}, {2, 6, 14}, {4, 5, 13}, {8, 9, 11}, {10}, {12}},
	} {
		chains, ok := impl.ChainAll(n)
		wantChains(t, n, chains, ok, want)
	}
}

// The sets of which no point is paired are those of the first points; they are the chain of the empty set.
func TestChainsWithNoPointPaired(t *testing.T) {
	for n := 1; n <= impl.PointsMax; n++ {
		chain := chainFrom(n, 0)
		for _, s := range chain {
			pairs, ok := impl.ChainPairs(n, s)
			wantList(t, fmt.Sprintf("ChainPairs(%d, %d)", n, s), pairs, ok, slices.Repeat([]int{-1}, n))
			got, ok := impl.ChainOf(n, s)
			wantList(t, fmt.Sprintf("ChainOf(%d, %d)", n, s), got, ok, chain)
		}
	}
}

// A set of which all points are paired is a chain for itself.
func TestChainsWithAllPointsPaired(t *testing.T) {
	found := map[int]int{}
	eachSet(func(n, s int) {
		if slices.Contains(pairsByHand(n, s), -1) {
			return
		}
		found[n]++
		chain, ok := impl.ChainOf(n, s)
		wantList(t, fmt.Sprintf("ChainOf(%d, %d)", n, s), chain, ok, []int{s})
	})
	for n, want := range []int{0, 0, 1, 0, 2, 0, 5, 0, 14} {
		if found[n] != want {
			t.Errorf("%d sets of %d points have all points paired, want %d", found[n], n, want)
		}
	}
}

// Of the points 0 to a - 1, not in the set, and a to a + b - 1, in the set, the last and the first ones are paired.
func TestChainPairsOfPointsThatFollowOneAnother(t *testing.T) {
	for n := 1; n <= impl.PointsMax; n++ {
		for a := 0; a <= n; a++ {
			for b := 0; a+b <= n; b++ {
				want := slices.Repeat([]int{-1}, n)
				for i := range min(a, b) {
					want[a-1-i], want[a+i] = a+i, a-1-i
				}
				s := (power(b) - 1) * power(a)
				pairs, ok := impl.ChainPairs(n, s)
				wantList(t, fmt.Sprintf("ChainPairs(%d, %d)", n, s), pairs, ok, want)
			}
		}
	}
}

func wantNoWide(t *testing.T, n int, f []int) {
	t.Helper()
	wide, ok := impl.ChainWide(n, f)
	wantNoNumber(t, fmt.Sprintf("ChainWide(%d, %v)", n, f), wide, ok)
}

// checkWideAtLimit expects at least 15 sets in ascending order.
func checkWideAtLimit(t *testing.T, n int, sets []int) {
	t.Helper()
	most := sets[:wideMost]
	wide, ok := impl.ChainWide(n, most)
	wantNumber(t, fmt.Sprintf("ChainWide(%d, %v)", n, most), wide, ok, wideByHand(most))
	for m := wideMost + 1; m <= len(sets); m++ {
		wantNoWide(t, n, sets[:m])
	}
}

func TestChainWideOf14And15Sets(t *testing.T) {
	for n := 4; n <= impl.PointsMax; n++ {
		all := where(n, func(s int) bool { return true })
		checkWideAtLimit(t, n, all)
		checkWideAtLimit(t, n, all[1:])
		checkWideAtLimit(t, n, all[len(all)-wideMost-1:])
		for k := range n {
			if level := levelByHand(n, k); len(level) > wideMost {
				checkWideAtLimit(t, n, level)
			}
		}
		for seed := range 50 {
			checkWideAtLimit(t, n, fewOf(all, wideMost+1, seed))
			checkWideAtLimit(t, n, fewOf(all, 16, seed))
		}
	}
	eachOfManyFamilies(func(n int, f []int) {
		if len(f) > wideMost {
			wantNoWide(t, n, f)
		}
	})
}

// antichainCalls has each function that makes a family of a family.
func antichainCalls() []familyCall {
	return []familyCall{
		{"AntichainTop", impl.AntichainTop},
		{"AntichainBottom", impl.AntichainBottom},
		{"ClosedDown", impl.ClosedDown},
		{"ClosedUp", impl.ClosedUp},
	}
}

func TestAntichainCallsOthers(t *testing.T) {
	for _, x := range badFamilies() {
		for _, c := range antichainCalls() {
			got, ok := c.call(x.n, x.list)
			wantNoList(t, fmt.Sprintf("%s, for %d points and %v,", c.name, x.n, x.list), got, ok)
		}
		if impl.AntichainIn(x.n, x.list) {
			t.Errorf("AntichainIn(%d, %v) holds", x.n, x.list)
		}
		if whole, bottom, ok := impl.WeightOf(x.n, x.list); ok || whole != 0 || bottom != 0 {
			t.Errorf("WeightOf(%d, %v) returned %d, %d, %v, want 0, 0, false", x.n, x.list, whole, bottom, ok)
		}
		wantNoWide(t, x.n, x.list)
		long, ok := impl.ChainLong(x.n, x.list)
		wantNoNumber(t, fmt.Sprintf("ChainLong(%d, %v)", x.n, x.list), long, ok)
	}
}

func TestChainCallsOthers(t *testing.T) {
	for _, x := range badSets() {
		pairs, ok := impl.ChainPairs(x.n, x.s)
		wantNoList(t, fmt.Sprintf("ChainPairs(%d, %d)", x.n, x.s), pairs, ok)
		chain, ok := impl.ChainOf(x.n, x.s)
		wantNoList(t, fmt.Sprintf("ChainOf(%d, %d)", x.n, x.s), chain, ok)
	}
	for _, n := range badCounts {
		if chains, ok := impl.ChainAll(n); ok || len(chains) != 0 {
			t.Errorf("ChainAll(%d) returned %v, %v, want no chains, false", n, chains, ok)
		}
	}
}

func TestAntichainsAreNewMemory(t *testing.T) {
	for _, c := range antichainCalls() {
		eachFamily(func(n int, f []int) { checkNewMemory(t, c, n, f) })
	}
}

func TestChainsOfSetsAreNewMemory(t *testing.T) {
	eachSet(func(n, s int) {
		for _, c := range []struct {
			name string
			call func(n, s int) ([]int, bool)
		}{{"ChainPairs", impl.ChainPairs}, {"ChainOf", impl.ChainOf}} {
			first, _ := c.call(n, s)
			want := slices.Clone(first)
			second, _ := c.call(n, s)
			scribble(first)
			wantList(t, fmt.Sprintf("%s(%d, %d)", c.name, n, s), second, true, want)
			third, ok := c.call(n, s)
			wantList(t, fmt.Sprintf("%s(%d, %d)", c.name, n, s), third, ok, want)
		}
	})
}

// Each chain in turn is written over, up to its capacity; so is, at last, the list of the chains.
func TestChainsOfAllSetsAreNewMemory(t *testing.T) {
	for n := 1; n <= impl.PointsMax; n++ {
		want := chainsByHand(n)
		for i := range want {
			chains, _ := impl.ChainAll(n)
			scribble(chains[i])
			chains[i] = want[i]
			wantChains(t, n, chains, true, want)
		}
		first, _ := impl.ChainAll(n)
		second, _ := impl.ChainAll(n)
		for i := range first {
			scribble(first[i])
		}
		clear(first[:cap(first)])
		wantChains(t, n, second, true, want)
		third, ok := impl.ChainAll(n)
		wantChains(t, n, third, ok, want)
	}
}

func TestAntichainInWeightOfChainWideAndChainLongLeaveTheirArguments(t *testing.T) {
	eachSmallFamily(func(n int, f []int) {
		given := append(slices.Clone(f), 0, 1, 0, 1)
		before := slices.Clone(given)
		impl.AntichainIn(n, given[:len(f)])
		impl.WeightOf(n, given[:len(f)])
		impl.ChainWide(n, given[:len(f)])
		impl.ChainLong(n, given[:len(f)])
		if !slices.Equal(given, before) {
			t.Errorf("the list %v of %d points was changed to %v", before, n, given)
		}
	})
}

// antichainAnswers tells what each function of the chapter makes of a family, and of the sets that its first
// numbers and its length name.
func antichainAnswers(n int, f []int) []string {
	out := []string{fmt.Sprint(impl.AntichainIn(n, f))}
	for _, c := range antichainCalls() {
		list, ok := c.call(n, f)
		out = append(out, fmt.Sprint(list, ok))
	}
	for _, s := range append(slices.Clone(f[:min(len(f), 3)]), len(f)) {
		pairs, pairsOk := impl.ChainPairs(n, s)
		chain, chainOk := impl.ChainOf(n, s)
		out = append(out, fmt.Sprint(pairs, pairsOk, chain, chainOk))
	}
	whole, bottom, weightOk := impl.WeightOf(n, f)
	chains, chainsOk := impl.ChainAll(n)
	wide, wideOk := impl.ChainWide(n, f)
	long, longOk := impl.ChainLong(n, f)
	return append(out, fmt.Sprint(whole, bottom, weightOk, chains, chainsOk, wide, wideOk, long, longOk))
}

func TestAntichainsAndChainsKeepNoState(t *testing.T) {
	checkNoState(t, antichainAnswers)
}
