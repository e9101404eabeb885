package tests

import (
	"math"
	"slices"
	"testing"

	"loop.example/setshadows/impl"
)

// Numbers of points out of their range.
var badCounts = []int{math.MinInt, -1, 0, 9, 63, 64, 65, math.MaxInt}

type numbered struct {
	n, s int
}

// badSets are pairs of a number of points and a number that is no set of so many.
func badSets() []numbered {
	var out []numbered
	for _, n := range badCounts {
		for _, s := range []int{-1, 0, 1, 2} {
			out = append(out, numbered{n, s})
		}
	}
	for n := 1; n <= impl.PointsMax; n++ {
		for _, s := range []int{math.MinInt, -1, power(n), power(n) + 1, 1 << 32, 1<<32 + 1, math.MaxInt} {
			out = append(out, numbered{n, s})
		}
	}
	return out
}

// badPoints are numbers that are none of n points.
func badPoints(n int) []int {
	return []int{math.MinInt, -64, -1, n, n + 1, 63, 64, 64 + n, math.MaxInt}
}

// power is 2 to the power of n, by doubling.
func power(n int) int {
	p := 1
	for range n {
		p *= 2
	}
	return p
}

// pointsByHand takes the points of a set from its bits, by division.
func pointsByHand(n, s int) []int {
	var points []int
	for p := range n {
		if s/power(p)%2 == 1 {
			points = append(points, p)
		}
	}
	return points
}

// levelByHand lists the sets of n points with the size k in ascending order.
func levelByHand(n, k int) []int {
	var sets []int
	for s := range power(n) {
		if len(pointsByHand(n, s)) == k {
			sets = append(sets, s)
		}
	}
	return sets
}

// triangle has the numbers of ways to choose up to the row n, each the sum of two above it.
func triangle(n int) [][]int {
	rows := make([][]int, n+1)
	for i := range rows {
		rows[i] = make([]int, n+1)
		rows[i][0] = 1
		for k := 1; k <= i; k++ {
			rows[i][k] = rows[i-1][k-1] + rows[i-1][k]
		}
	}
	return rows
}

// eachSet calls a check for each set of each number of points.
func eachSet(check func(n, s int)) {
	for n := 1; n <= impl.PointsMax; n++ {
		for s := range power(n) {
			check(n, s)
		}
	}
}

func wantNumber(t *testing.T, what string, got int, ok bool, want int) {
	t.Helper()
	if !ok || got != want {
		t.Errorf("%s returned %d, %v, want %d, true", what, got, ok, want)
	}
}

func wantNoNumber(t *testing.T, what string, got int, ok bool) {
	t.Helper()
	if ok || got != 0 {
		t.Errorf("%s returned %d, %v, want 0, false", what, got, ok)
	}
}

func wantList(t *testing.T, what string, got []int, ok bool, want []int) {
	t.Helper()
	if !ok || !slices.Equal(got, want) {
		t.Errorf("%s returned %v, %v, want %v, true", what, got, ok, want)
	}
}

func wantNoList(t *testing.T, what string, got []int, ok bool) {
	t.Helper()
	if ok || len(got) != 0 {
		t.Errorf("%s returned %v, %v, want no numbers, false", what, got, ok)
	}
}

func wantText(t *testing.T, what string, got string, ok bool, want string) {
	t.Helper()
	if !ok || got != want {
		t.Errorf("%s returned %q, %v, want %q, true", what, got, ok, want)
	}
}
