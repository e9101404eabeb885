package impl

import (
	"iter"
	"math/bits"
)

// PointsMax is the greatest number of points.
const PointsMax = 8

// waysMax is the greatest number that Choose takes and that a list of Cascade may have.
const waysMax = 40

// cascadeMax is the greatest sum that Cascade takes, cascadeSizeMax the greatest size.
const (
	cascadeMax     = 1000000
	cascadeSizeMax = 8
)

// set has the point i if its bit with the value 2 to the power of i is 1.
type set uint

func (s set) has(p int) bool {
	return s>>p&1 == 1
}

func (s set) with(p int) set {
	return s | 1<<p
}

func (s set) without(p int) set {
	return s &^ (1 << p)
}

// moved expects points.
func (s set) moved(i int, k int) set {
	if !s.has(i) || s.has(k) {
		return s
	}
	return s.without(i).with(k)
}

func (s set) size() int {
	return bits.OnesCount(uint(s))
}

func (s set) partOf(x set) bool {
	return s&^x == 0
}

func (s set) partOfOther(x set) bool {
	return s != x && s.partOf(x)
}

func (s set) meets(x set) bool {
	return s&x != 0
}

func (s set) union(x set) set {
	return s | x
}

func (s set) common(x set) set {
	return s & x
}

func (s set) less(x set) set {
	return s &^ x
}

// points gives the points in ascending order.
func (s set) points() iter.Seq[int] {
	return func(yield func(int) bool) {
		for rest := s; rest != 0; rest &= rest - 1 {
			if !yield(bits.TrailingZeros(uint(rest))) {
				return
			}
		}
	}
}

// rank counts the lesser sets of the same size: for the j-th point p, those
// that agree above p and have j points below it are choose(p, j) many.
func (s set) rank() int {
	rank, j := 0, 0
	for p := range s.points() {
		j++
		rank += choose(p, j)
	}
	return rank
}

// unranked undoes rank for the sets of size k.
func unranked(k int, rank int) set {
	s := set(0)
	for j := k; j > 0; j-- {
		p := greatestTop(rank, j)
		s = s.with(p)
		rank -= choose(p, j)
	}
	return s
}

func pointsIn(n int) bool {
	return 1 <= n && n <= PointsMax
}

func pointIn(n int, p int) bool {
	return 0 <= p && p < n
}

func sizeIn(n int, k int) bool {
	return pointsIn(n) && 0 <= k && k <= n
}

func allPoints(n int) set {
	return 1<<n - 1
}

// choose expects no negative numbers. Each step leaves a number of ways, so
// the divisions have no remainder.
func choose(n int, k int) int {
	if k > n {
		return 0
	}
	ways := 1
	for i := 1; i <= k; i++ {
		ways = ways * (n - k + i) / i
	}
	return ways
}

// greatestTop returns the greatest number of which there are at most m ways to
// choose k, k at least 1. It stops behind waysMax, where its callers refuse.
func greatestTop(m int, k int) int {
	top := k - 1
	for top <= waysMax && choose(top+1, k) <= m {
		top++
	}
	return top
}

// SetIn reports whether a number is a set of n points.
func SetIn(n int, s int) bool {
	return pointsIn(n) && 0 <= s && s <= int(allPoints(n))
}

// SetSize returns the size of a set, and true.
func SetSize(n int, s int) (int, bool) {
	if !SetIn(n, s) {
		return 0, false
	}
	return set(s).size(), true
}

// SetPoints returns the points of a set, in ascending order, and true.
func SetPoints(n int, s int) ([]int, bool) {
	points := []int{}
	if !SetIn(n, s) {
		return points, false
	}
	for p := range set(s).points() {
		points = append(points, p)
	}
	return points, true
}

// SetOf returns the set of a list of points, of which some may stand more than once, and true.
func SetOf(n int, list []int) (int, bool) {
	if !pointsIn(n) {
		return 0, false
	}
	s := set(0)
	for _, p := range list {
		if !pointIn(n, p) {
			return 0, false
		}
		s = s.with(p)
	}
	return int(s), true
}

// SetOther returns the set of all points that are not in a set, and true.
func SetOther(n int, s int) (int, bool) {
	if !SetIn(n, s) {
		return 0, false
	}
	return int(allPoints(n) &^ set(s)), true
}

// SetMoved returns the set with the point i taken out and the point k put in, if i is in it and k is not, and otherwise the set, and true.
func SetMoved(n int, s int, i int, k int) (int, bool) {
	if !SetIn(n, s) || !pointIn(n, i) || !pointIn(n, k) {
		return 0, false
	}
	return int(set(s).moved(i, k)), true
}

// SetRank returns the index, from 0 on, of a set among all sets of its size in ascending order, and true.
func SetRank(n int, s int) (int, bool) {
	if !SetIn(n, s) {
		return 0, false
	}
	return set(s).rank(), true
}

// SetUnrank returns the set with a size k from 0 to n and an index, and true.
func SetUnrank(n int, k int, rank int) (int, bool) {
	if !sizeIn(n, k) || rank < 0 || rank >= choose(n, k) {
		return 0, false
	}
	return int(unranked(k, rank)), true
}

// SetText returns a text of n signs, 1 for a point in the set and 0 for others, the point 0 first, and true.
func SetText(n int, s int) (string, bool) {
	if !SetIn(n, s) {
		return "", false
	}
	signs := make([]byte, n)
	for p := range signs {
		signs[p] = '0'
	}
	for p := range set(s).points() {
		signs[p] = '1'
	}
	return string(signs), true
}

// SetRead returns the set with a text of n signs, and true.
func SetRead(n int, text string) (int, bool) {
	if !pointsIn(n) || len(text) != n {
		return 0, false
	}
	s := set(0)
	for p := range n {
		switch text[p] {
		case '0':
		case '1':
			s = s.with(p)
		default:
			return 0, false
		}
	}
	return int(s), true
}

// Choose returns the number of ways to choose k of n, n from 0 to 40 and k from 0 to 40, and true.
func Choose(n int, k int) (int, bool) {
	if n < 0 || n > waysMax || k < 0 || k > waysMax {
		return 0, false
	}
	return choose(n, k), true
}

// Cascade returns the list of numbers a(k), a(k-1) and so on, each greater than the next one, for which a number m from 1 to 1000000 is the sum of the numbers of ways to choose k of a(k), k - 1 of a(k-1) and so on down to j of a(j), j at least 1 and a(j) at least j, k from 1 to 8; and true.
func Cascade(m int, k int) ([]int, bool) {
	if m < 1 || m > cascadeMax || k < 1 || k > cascadeSizeMax {
		return []int{}, false
	}
	list := []int{}
	// With size 1 the top is all that is left, so the size does not fall below it.
	for rest, size := m, k; rest > 0; size-- {
		top := greatestTop(rest, size)
		if top > waysMax {
			return []int{}, false
		}
		list = append(list, top)
		rest -= choose(top, size)
	}
	return list, true
}
