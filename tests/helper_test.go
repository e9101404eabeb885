package tests

import (
	"cmp"
	"math"
	"slices"
	"testing"

	"loop.example/setshadows/impl"
)

// Numbers of points out of their range.
var badCounts = []int{math.MinInt, -1, 0, 9, 63, 64, 65, math.MaxInt}

type numbered struct {
	n, s int
}

// badSets are pairs of a number of points and a number that is no set of so many.
func badSets() []numbered {
	var out []numbered
	for _, n := range badCounts {
		for _, s := range []int{-1, 0, 1, 2} {
			out = append(out, numbered{n, s})
		}
	}
	for n := 1; n <= impl.PointsMax; n++ {
		for _, s := range []int{math.MinInt, -1, power(n), power(n) + 1, 1 << 32, 1<<32 + 1, math.MaxInt} {
			out = append(out, numbered{n, s})
		}
	}
	return out
}

// badPoints are numbers that are none of n points.
func badPoints(n int) []int {
	return []int{math.MinInt, -64, -1, n, n + 1, 63, 64, 64 + n, math.MaxInt}
}

// power is 2 to the power of n, by doubling.
func power(n int) int {
	p := 1
	for range n {
		p *= 2
	}
	return p
}

// pointsByHand takes the points of a set from its bits, by division.
func pointsByHand(n, s int) []int {
	var points []int
	for p := range n {
		if s/power(p)%2 == 1 {
			points = append(points, p)
		}
	}
	return points
}

// levelByHand lists the sets of n points with the size k in ascending order.
func levelByHand(n, k int) []int {
	var sets []int
	for s := range power(n) {
		if len(pointsByHand(n, s)) == k {
			sets = append(sets, s)
		}
	}
	return sets
}

// triangle has the numbers of ways to choose up to the row n, each the sum of two above it.
func triangle(n int) [][]int {
	rows := make([][]int, n+1)
	for i := range rows {
		rows[i] = make([]int, n+1)
		rows[i][0] = 1
		for k := 1; k <= i; k++ {
			rows[i][k] = rows[i-1][k-1] + rows[i-1][k]
		}
	}
	return rows
}

// eachSet calls a check for each set of each number of points.
func eachSet(check func(n, s int)) {
	for n := 1; n <= impl.PointsMax; n++ {
		for s := range power(n) {
			check(n, s)
		}
	}
}

// where lists the sets of n points that pass a test, in ascending order.
func where(n int, test func(s int) bool) []int {
	var sets []int
	for s := range power(n) {
		if test(s) {
			sets = append(sets, s)
		}
	}
	return sets
}

// families has all families for up to three points, and some for more.
func families(n int) [][]int {
	if n > 3 {
		return someFamilies(n)
	}
	var out [][]int
	for code := range power(power(n)) {
		out = append(out, where(n, func(s int) bool { return code/power(s)%2 == 1 }))
	}
	return out
}

// someFamilies expects at least four points.
func someFamilies(n int) [][]int {
	all := power(n)
	return [][]int{
		nil,
		{0},
		{all - 1},
		{0, all - 1},
		{1, all / 2},
		levelByHand(n, 1),
		levelByHand(n, n/2),
		levelByHand(n, n-1),
		where(n, func(s int) bool { return true }),
		where(n, func(s int) bool { return s > 0 }),
		where(n, func(s int) bool { return s%2 == 1 }),
		where(n, func(s int) bool { return s < all/2 }),
		where(n, func(s int) bool { return s%3 == 1 }),
		where(n, func(s int) bool { return s*s%7 < 3 }),
		where(n, func(s int) bool { return (s*s*s+5*s)%11 < 4 }),
	}
}

func eachFamily(check func(n int, f []int)) {
	for n := 1; n <= impl.PointsMax; n++ {
		for _, f := range families(n) {
			check(n, f)
		}
	}
}

// eachTwoFamilies calls a check for each two families, and each one with itself, in both orders.
func eachTwoFamilies(check func(n int, f, g []int)) {
	eachFamily(func(n int, f []int) {
		for _, g := range families(n) {
			check(n, f, g)
		}
	})
}

// mixed makes a number of a set and a seed, without a rule that one could see in the sets.
func mixed(s, seed int) uint32 {
	x := uint32(s)*2654435761 + uint32(seed)*40503 + 1
	for range 3 {
		x ^= x >> 15
		x *= 2246822519
		x ^= x >> 13
	}
	return x
}

// inDisorder puts sets in an order without a rule that one could see.
func inDisorder(sets []int, seed int) []int {
	order := slices.Clone(sets)
	slices.SortFunc(order, func(a, b int) int { return cmp.Compare(mixed(a, seed), mixed(b, seed)) })
	return order
}

// scatteredFamilies has families with few, some and most of all sets.
func scatteredFamilies(n, seeds int) [][]int {
	var out [][]int
	for seed := range seeds {
		for most := range uint32(7) {
			out = append(out, where(n, func(s int) bool { return mixed(s, seed)%8 <= most }))
		}
	}
	return out
}

// eachOfManyFamilies calls a check for all families of up to three points, all families of sets of one size of
// up to five, and some others.
func eachOfManyFamilies(check func(n int, f []int)) {
	eachFamily(check)
	eachEvenFamily(func(n, k int, f []int) { check(n, f) })
	for n := 4; n <= impl.PointsMax; n++ {
		for _, f := range scatteredFamilies(n, 12) {
			check(n, f)
		}
	}
}

func eachFamilyOfFourPoints(check func(f []int)) {
	for code := range power(16) {
		check(where(4, func(s int) bool { return code>>s&1 == 1 }))
	}
}

type numberedList struct {
	n    int
	list []int
}

// badLists are lists for numbers of points out of their range, and lists with a number that is no set.
func badLists() []numberedList {
	var out []numberedList
	for _, n := range badCounts {
		for _, list := range [][]int{nil, {}, {0}, {0, 1}} {
			out = append(out, numberedList{n, list})
		}
	}
	for n := 1; n <= impl.PointsMax; n++ {
		for _, bad := range []int{math.MinInt, -power(n), -1, power(n), power(n) + 1, 1 << 32, 1<<32 + 1, math.MaxInt} {
			for _, list := range [][]int{{bad}, {bad, 0, 1}, {0, bad, 1}, {0, 1, bad}} {
				out = append(out, numberedList{n, list})
			}
		}
	}
	return out
}

// badFamilies are badLists, and lists of sets that do not ascend.
func badFamilies() []numberedList {
	out := badLists()
	for n := 1; n <= impl.PointsMax; n++ {
		last := power(n) - 1
		all := where(n, func(s int) bool { return true })
		for _, list := range [][]int{
			{0, 0}, {last, last}, {1, 0}, {last, 0}, {0, 1, 0}, {0, 0, 1}, {0, 1, 1},
			append(slices.Clone(all), last), append(slices.Clone(all), 0), slices.Concat(all, all), reversed(all),
		} {
			out = append(out, numberedList{n, list})
		}
	}
	return out
}

func reversed(list []int) []int {
	out := slices.Clone(list)
	slices.Reverse(out)
	return out
}

// scribble writes over all that belongs to a list, up to its capacity.
func scribble(list []int) {
	list = list[:cap(list)]
	for i := range list {
		list[i] = -7
	}
}

func wantNumber(t *testing.T, what string, got int, ok bool, want int) {
	t.Helper()
	if !ok || got != want {
		t.Errorf("%s returned %d, %v, want %d, true", what, got, ok, want)
	}
}

func wantNoNumber(t *testing.T, what string, got int, ok bool) {
	t.Helper()
	if ok || got != 0 {
		t.Errorf("%s returned %d, %v, want 0, false", what, got, ok)
	}
}

func wantList(t *testing.T, what string, got []int, ok bool, want []int) {
	t.Helper()
	if !ok || !slices.Equal(got, want) {
		t.Errorf("%s returned %v, %v, want %v, true", what, got, ok, want)
	}
}

func wantNoList(t *testing.T, what string, got []int, ok bool) {
	t.Helper()
	if ok || len(got) != 0 {
		t.Errorf("%s returned %v, %v, want no numbers, false", what, got, ok)
	}
}

func wantText(t *testing.T, what string, got string, ok bool, want string) {
	t.Helper()
	if !ok || got != want {
		t.Errorf("%s returned %q, %v, want %q, true", what, got, ok, want)
	}
}

// checkNoState asks for the answers about all families and the lists that are none, and once more in the opposite order.
func checkNoState(t *testing.T, answers func(n int, f []int) []string) {
	t.Helper()
	var asked []numberedList
	eachFamily(func(n int, f []int) { asked = append(asked, numberedList{n, f}) })
	asked = append(asked, badFamilies()...)
	first := make([][]string, len(asked))
	for i, x := range asked {
		first[i] = answers(x.n, x.list)
	}
	for i, x := range slices.Backward(asked) {
		if again := answers(x.n, x.list); !slices.Equal(again, first[i]) {
			t.Errorf("for %d points and %v, the answers are %v, and were %v", x.n, x.list, again, first[i])
		}
	}
}
