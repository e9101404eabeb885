package tests

import (
	"fmt"
	"math"
	"slices"
	"strings"
	"testing"

	"loop.example/setshadows/impl"
)

func TestPointsMax(t *testing.T) {
	if impl.PointsMax != 8 {
		t.Errorf("PointsMax is %d, want 8", impl.PointsMax)
	}
}

func TestPromise1SetIn(t *testing.T) {
	eachSet(func(n, s int) {
		if !impl.SetIn(n, s) {
			t.Errorf("SetIn(%d, %d) does not hold", n, s)
		}
		points, _ := impl.SetPoints(n, s)
		of, ok := impl.SetOf(n, points)
		wantNumber(t, fmt.Sprintf("SetOf(%d, %v)", n, points), of, ok, s)
		text, _ := impl.SetText(n, s)
		read, ok := impl.SetRead(n, text)
		wantNumber(t, fmt.Sprintf("SetRead(%d, %q)", n, text), read, ok, s)
	})
}

func TestSetInOthers(t *testing.T) {
	for _, x := range badSets() {
		if impl.SetIn(x.n, x.s) {
			t.Errorf("SetIn(%d, %d) holds", x.n, x.s)
		}
	}
}

func TestPromise2SetSize(t *testing.T) {
	eachSet(func(n, s int) {
		size, ok := impl.SetSize(n, s)
		wantNumber(t, fmt.Sprintf("SetSize(%d, %d)", n, s), size, ok, len(pointsByHand(n, s)))
		other, _ := impl.SetOther(n, s)
		rest, ok := impl.SetSize(n, other)
		wantNumber(t, fmt.Sprintf("SetSize(%d, %d)", n, other), rest, ok, n-size)
	})
}

func TestSetSizeOthers(t *testing.T) {
	for _, x := range badSets() {
		size, ok := impl.SetSize(x.n, x.s)
		wantNoNumber(t, fmt.Sprintf("SetSize(%d, %d)", x.n, x.s), size, ok)
	}
}

func TestPromise3SetPoints(t *testing.T) {
	eachSet(func(n, s int) {
		points, ok := impl.SetPoints(n, s)
		wantList(t, fmt.Sprintf("SetPoints(%d, %d)", n, s), points, ok, pointsByHand(n, s))
		size, _ := impl.SetSize(n, s)
		if len(points) != size {
			t.Errorf("SetPoints(%d, %d) returned %d points, SetSize %d", n, s, len(points), size)
		}
		for i := 1; i < len(points); i++ {
			if points[i-1] >= points[i] {
				t.Errorf("SetPoints(%d, %d) returned %v, which does not ascend", n, s, points)
			}
		}
	})
}

func TestSetPointsAreNewMemory(t *testing.T) {
	first, _ := impl.SetPoints(5, 22)
	second, _ := impl.SetPoints(5, 22)
	clear(first[:cap(first)])
	wantList(t, "SetPoints(5, 22)", second, true, []int{1, 2, 4})
	third, ok := impl.SetPoints(5, 22)
	wantList(t, "SetPoints(5, 22)", third, ok, []int{1, 2, 4})
}

func TestSetPointsOthers(t *testing.T) {
	for _, x := range badSets() {
		points, ok := impl.SetPoints(x.n, x.s)
		wantNoList(t, fmt.Sprintf("SetPoints(%d, %d)", x.n, x.s), points, ok)
	}
}

// shuffled has each point of a set up to three times, not in ascending order.
func shuffled(n, s int) []int {
	points := pointsByHand(n, s)
	list := slices.Concat(points, points)
	slices.Reverse(list)
	for i, p := range points {
		if i%2 == 0 {
			list = append(list, p)
		}
	}
	return list
}

func TestPromise4SetOf(t *testing.T) {
	eachSet(func(n, s int) {
		list := shuffled(n, s)
		before := slices.Clone(list)
		of, ok := impl.SetOf(n, list)
		wantNumber(t, fmt.Sprintf("SetOf(%d, %v)", n, before), of, ok, s)
		if !slices.Equal(list, before) {
			t.Errorf("SetOf(%d, %v) changed the list to %v", n, before, list)
		}
		slices.Reverse(list)
		opposite, ok := impl.SetOf(n, list)
		wantNumber(t, fmt.Sprintf("SetOf(%d, %v)", n, list), opposite, ok, of)
		if size, _ := impl.SetSize(n, of); size > len(list) {
			t.Errorf("SetOf(%d, %v) has %d points", n, list, size)
		}
	})
}

func TestSetOfEdges(t *testing.T) {
	for n := 1; n <= impl.PointsMax; n++ {
		none, ok := impl.SetOf(n, nil)
		wantNumber(t, fmt.Sprintf("SetOf(%d, nil)", n), none, ok, 0)
		empty, ok := impl.SetOf(n, []int{})
		wantNumber(t, fmt.Sprintf("SetOf(%d, [])", n), empty, ok, 0)
		last, ok := impl.SetOf(n, slices.Repeat([]int{n - 1}, 300))
		wantNumber(t, fmt.Sprintf("SetOf(%d, the last point 300 times)", n), last, ok, power(n-1))
	}
	all, ok := impl.SetOf(impl.PointsMax, []int{7, 0, 6, 1, 5, 2, 4, 3, 7, 0})
	wantNumber(t, "SetOf of all points", all, ok, 255)
}

func TestSetOfOthers(t *testing.T) {
	for _, n := range badCounts {
		for _, list := range [][]int{nil, {0}, {0, 1}} {
			s, ok := impl.SetOf(n, list)
			wantNoNumber(t, fmt.Sprintf("SetOf(%d, %v)", n, list), s, ok)
		}
	}
	for n := 1; n <= impl.PointsMax; n++ {
		for _, p := range badPoints(n) {
			for _, list := range [][]int{{p}, {0, p}, {p, 0}, {0, p, 0}} {
				s, ok := impl.SetOf(n, list)
				wantNoNumber(t, fmt.Sprintf("SetOf(%d, %v)", n, list), s, ok)
			}
		}
	}
}

func TestPromise5SetOther(t *testing.T) {
	eachSet(func(n, s int) {
		other, ok := impl.SetOther(n, s)
		wantNumber(t, fmt.Sprintf("SetOther(%d, %d)", n, s), other, ok, power(n)-1-s)
		for _, p := range pointsByHand(n, s) {
			if slices.Contains(pointsByHand(n, other), p) {
				t.Errorf("SetOther(%d, %d) has the point %d too", n, s, p)
			}
		}
		back, ok := impl.SetOther(n, other)
		wantNumber(t, fmt.Sprintf("SetOther(%d, %d)", n, other), back, ok, s)
	})
}

func TestSetOtherOthers(t *testing.T) {
	for _, x := range badSets() {
		other, ok := impl.SetOther(x.n, x.s)
		wantNoNumber(t, fmt.Sprintf("SetOther(%d, %d)", x.n, x.s), other, ok)
	}
}

// movedByHand puts the point k in the place of the point i if it may.
func movedByHand(n, s, i, k int) int {
	points := pointsByHand(n, s)
	if slices.Contains(points, i) && !slices.Contains(points, k) {
		return s - power(i) + power(k)
	}
	return s
}

func checkMoved(t *testing.T, n, s, i, k int) {
	t.Helper()
	moved, ok := impl.SetMoved(n, s, i, k)
	wantNumber(t, fmt.Sprintf("SetMoved(%d, %d, %d, %d)", n, s, i, k), moved, ok, movedByHand(n, s, i, k))
	size, _ := impl.SetSize(n, s)
	movedSize, ok := impl.SetSize(n, moved)
	wantNumber(t, fmt.Sprintf("SetSize(%d, %d)", n, moved), movedSize, ok, size)
	if moved != s {
		back, ok := impl.SetMoved(n, moved, k, i)
		wantNumber(t, fmt.Sprintf("SetMoved(%d, %d, %d, %d)", n, moved, k, i), back, ok, s)
	}
}

func TestPromise6SetMoved(t *testing.T) {
	eachSet(func(n, s int) {
		for i := range n {
			for k := range n {
				checkMoved(t, n, s, i, k)
			}
		}
	})
}

func TestSetMovedOthers(t *testing.T) {
	for _, x := range badSets() {
		moved, ok := impl.SetMoved(x.n, x.s, 0, 0)
		wantNoNumber(t, fmt.Sprintf("SetMoved(%d, %d, 0, 0)", x.n, x.s), moved, ok)
	}
	for n := 1; n <= impl.PointsMax; n++ {
		for _, p := range badPoints(n) {
			// The sets with and without the point 0: the point that is none counts even if nothing would be moved.
			for _, s := range []int{0, 1, power(n) - 1} {
				from, ok := impl.SetMoved(n, s, p, 0)
				wantNoNumber(t, fmt.Sprintf("SetMoved(%d, %d, %d, 0)", n, s, p), from, ok)
				to, ok := impl.SetMoved(n, s, 0, p)
				wantNoNumber(t, fmt.Sprintf("SetMoved(%d, %d, 0, %d)", n, s, p), to, ok)
				both, ok := impl.SetMoved(n, s, p, p)
				wantNoNumber(t, fmt.Sprintf("SetMoved(%d, %d, %d, %d)", n, s, p, p), both, ok)
			}
		}
	}
}

func TestPromise7SetRank(t *testing.T) {
	eachSet(func(n, s int) {
		size, _ := impl.SetSize(n, s)
		rank, ok := impl.SetRank(n, s)
		wantNumber(t, fmt.Sprintf("SetRank(%d, %d)", n, s), rank, ok, slices.Index(levelByHand(n, size), s))
		back, ok := impl.SetUnrank(n, size, rank)
		wantNumber(t, fmt.Sprintf("SetUnrank(%d, %d, %d)", n, size, rank), back, ok, s)
	})
}

func TestSetRankOthers(t *testing.T) {
	for _, x := range badSets() {
		rank, ok := impl.SetRank(x.n, x.s)
		wantNoNumber(t, fmt.Sprintf("SetRank(%d, %d)", x.n, x.s), rank, ok)
	}
}

func checkUnrank(t *testing.T, n, k, rank, want int) {
	t.Helper()
	s, ok := impl.SetUnrank(n, k, rank)
	wantNumber(t, fmt.Sprintf("SetUnrank(%d, %d, %d)", n, k, rank), s, ok, want)
	back, ok := impl.SetRank(n, s)
	wantNumber(t, fmt.Sprintf("SetRank(%d, %d)", n, s), back, ok, rank)
	size, ok := impl.SetSize(n, s)
	wantNumber(t, fmt.Sprintf("SetSize(%d, %d)", n, s), size, ok, k)
	if ahead, ok := impl.SetUnrank(n, k, rank-1); ok && ahead >= s {
		t.Errorf("SetUnrank(%d, %d, %d) is %d, and with the index ahead %d", n, k, rank, s, ahead)
	}
}

func TestPromise8SetUnrank(t *testing.T) {
	for n := 1; n <= impl.PointsMax; n++ {
		for k := 0; k <= n; k++ {
			for rank, want := range levelByHand(n, k) {
				checkUnrank(t, n, k, rank, want)
			}
		}
	}
}

func TestSetUnrankOthers(t *testing.T) {
	for _, n := range badCounts {
		s, ok := impl.SetUnrank(n, 0, 0)
		wantNoNumber(t, fmt.Sprintf("SetUnrank(%d, 0, 0)", n), s, ok)
	}
	for n := 1; n <= impl.PointsMax; n++ {
		for _, k := range []int{math.MinInt, -1, n + 1, 64, math.MaxInt} {
			s, ok := impl.SetUnrank(n, k, 0)
			wantNoNumber(t, fmt.Sprintf("SetUnrank(%d, %d, 0)", n, k), s, ok)
		}
		for k := 0; k <= n; k++ {
			count := len(levelByHand(n, k))
			for _, rank := range []int{math.MinInt, -1, count, count + 1, math.MaxInt} {
				s, ok := impl.SetUnrank(n, k, rank)
				wantNoNumber(t, fmt.Sprintf("SetUnrank(%d, %d, %d)", n, k, rank), s, ok)
			}
		}
	}
}

// textByHand has a sign for each point, the point 0 first.
func textByHand(n, s int) string {
	text := ""
	for p := range n {
		if slices.Contains(pointsByHand(n, s), p) {
			text += "1"
		} else {
			text += "0"
		}
	}
	return text
}

func TestPromise9SetText(t *testing.T) {
	eachSet(func(n, s int) {
		text, ok := impl.SetText(n, s)
		wantText(t, fmt.Sprintf("SetText(%d, %d)", n, s), text, ok, textByHand(n, s))
		if len(text) != n {
			t.Errorf("SetText(%d, %d) has %d signs", n, s, len(text))
		}
		read, ok := impl.SetRead(n, text)
		wantNumber(t, fmt.Sprintf("SetRead(%d, %q)", n, text), read, ok, s)
	})
}

func TestSetTextOthers(t *testing.T) {
	for _, x := range badSets() {
		if text, ok := impl.SetText(x.n, x.s); ok || text != "" {
			t.Errorf("SetText(%d, %d) returned %q, %v, want no text, false", x.n, x.s, text, ok)
		}
	}
}

func TestPromise10SetRead(t *testing.T) {
	eachSet(func(n, s int) {
		given := textByHand(n, s)
		read, ok := impl.SetRead(n, given)
		wantNumber(t, fmt.Sprintf("SetRead(%d, %q)", n, given), read, ok, s)
		text, ok := impl.SetText(n, read)
		wantText(t, fmt.Sprintf("SetText(%d, %d)", n, read), text, ok, given)
	})
}

func wantUnread(t *testing.T, n int, text string) {
	t.Helper()
	s, ok := impl.SetRead(n, text)
	wantNoNumber(t, fmt.Sprintf("SetRead(%d, %q)", n, text), s, ok)
}

func TestSetReadOtherSigns(t *testing.T) {
	for n := 1; n <= impl.PointsMax; n++ {
		for at := range n {
			for sign := range 256 {
				if sign == '0' || sign == '1' {
					continue
				}
				signs := []byte(strings.Repeat("1", n))
				signs[at] = byte(sign)
				wantUnread(t, n, string(signs))
			}
		}
	}
}

func TestSetReadOtherTexts(t *testing.T) {
	for _, n := range badCounts {
		for _, text := range []string{"", "0", "1", strings.Repeat("1", impl.PointsMax+1), strings.Repeat("0", 64)} {
			wantUnread(t, n, text)
		}
	}
	for n := 1; n <= impl.PointsMax; n++ {
		for _, text := range []string{"", strings.Repeat("1", n-1), strings.Repeat("1", n+1), strings.Repeat("0", 300)} {
			wantUnread(t, n, text)
		}
		for _, text := range []string{" ", "\n", "\x00", "x"} {
			wantUnread(t, n, strings.Repeat("0", n)+text)
			wantUnread(t, n, text+strings.Repeat("0", n))
		}
	}
	// As many runes as points, of which one is a digit of another script.
	wantUnread(t, 3, "01\uff11")
	wantUnread(t, 3, "\uff11")
}

func TestPromise11Choose(t *testing.T) {
	rows := triangle(40)
	for n := 0; n <= 40; n++ {
		for k := 0; k <= 40; k++ {
			ways, ok := impl.Choose(n, k)
			wantNumber(t, fmt.Sprintf("Choose(%d, %d)", n, k), ways, ok, rows[n][k])
			if k > n && ways != 0 {
				t.Errorf("Choose(%d, %d) returned %d, want 0", n, k, ways)
			}
			if n == 0 || k == 0 {
				continue
			}
			without, _ := impl.Choose(n-1, k)
			with, _ := impl.Choose(n-1, k-1)
			if ways != without+with {
				t.Errorf("Choose(%d, %d) returned %d, and those of %d are %d and %d", n, k, ways, n-1, without, with)
			}
		}
	}
}

func TestChooseEdges(t *testing.T) {
	for _, x := range []struct{ n, k, want int }{
		{0, 0, 1}, {0, 1, 0}, {0, 40, 0}, {1, 2, 0}, {39, 40, 0}, {40, 0, 1}, {40, 40, 1}, {8, 4, 70}, {40, 20, 137846528820},
	} {
		ways, ok := impl.Choose(x.n, x.k)
		wantNumber(t, fmt.Sprintf("Choose(%d, %d)", x.n, x.k), ways, ok, x.want)
	}
}

func TestChooseOthers(t *testing.T) {
	for _, bad := range []int{math.MinInt, -1, 41, 42, math.MaxInt} {
		for _, good := range []int{0, 1, 20, 40} {
			ways, ok := impl.Choose(bad, good)
			wantNoNumber(t, fmt.Sprintf("Choose(%d, %d)", bad, good), ways, ok)
			ways, ok = impl.Choose(good, bad)
			wantNoNumber(t, fmt.Sprintf("Choose(%d, %d)", good, bad), ways, ok)
		}
		ways, ok := impl.Choose(bad, bad)
		wantNoNumber(t, fmt.Sprintf("Choose(%d, %d)", bad, bad), ways, ok)
	}
}

// sums has numbers that are ordinary, and those beside each number of ways to choose k.
func sums(rows [][]int, k int) []int {
	var out []int
	for m := 1; m <= 2000; m++ {
		out = append(out, m)
	}
	for m := 2001; m <= 1000000; m += 991 {
		out = append(out, m)
	}
	for _, row := range rows {
		out = append(out, row[k]-1, row[k], row[k]+1)
	}
	out = append(out, 999999, 1000000)
	return slices.DeleteFunc(out, func(m int) bool { return m < 1 || m > 1000000 })
}

// checkCascade tells whether a list is the one of m and k; the document says that there is just one.
func checkCascade(t *testing.T, rows [][]int, m, k int) {
	t.Helper()
	list, ok := impl.Cascade(m, k)
	if m >= rows[41][k] {
		wantNoList(t, fmt.Sprintf("Cascade(%d, %d)", m, k), list, ok)
		return
	}
	if !ok || len(list) < 1 || len(list) > k {
		t.Errorf("Cascade(%d, %d) returned %v, %v", m, k, list, ok)
		return
	}
	sum := 0
	for i, a := range list {
		if i > 0 && a >= list[i-1] || a < k-i || a > 40 {
			t.Errorf("Cascade(%d, %d) returned %v, which is no such list", m, k, list)
			return
		}
		ways, _ := impl.Choose(a, k-i)
		if ways != rows[a][k-i] {
			t.Errorf("Choose(%d, %d) returned %d", a, k-i, ways)
		}
		sum += ways
	}
	if sum != m {
		t.Errorf("Cascade(%d, %d) returned %v, with the sum %d", m, k, list, sum)
	}
}

func TestPromise12Cascade(t *testing.T) {
	rows := triangle(41)
	for k := 1; k <= 8; k++ {
		for _, m := range sums(rows, k) {
			checkCascade(t, rows, m, k)
		}
	}
}

func TestCascadeEdges(t *testing.T) {
	for _, x := range []struct {
		m, k int
		want []int
	}{
		{1, 1, []int{1}},
		{40, 1, []int{40}},
		{1, 8, []int{8}},
		{8, 8, []int{8, 7, 6, 5, 4, 3, 2, 1}},
		{9, 8, []int{9}},
		{28, 3, []int{6, 4, 2}},
		{819, 2, []int{40, 39}},
		{10659, 3, []int{40, 39, 38}},
		{749397, 5, []int{40, 39, 38, 37, 36}},
	} {
		list, ok := impl.Cascade(x.m, x.k)
		wantList(t, fmt.Sprintf("Cascade(%d, %d)", x.m, x.k), list, ok, x.want)
	}
}

func TestCascadeGreaterThan40(t *testing.T) {
	for _, x := range []struct{ m, k int }{
		{41, 1}, {1000000, 1}, {820, 2}, {821, 2}, {1000000, 2}, {10660, 3}, {101270, 4}, {749398, 5}, {1000000, 5},
	} {
		list, ok := impl.Cascade(x.m, x.k)
		wantNoList(t, fmt.Sprintf("Cascade(%d, %d)", x.m, x.k), list, ok)
	}
}

func TestCascadeOthers(t *testing.T) {
	for _, m := range []int{math.MinInt, -1, 0, 1000001, math.MaxInt} {
		for k := 1; k <= 8; k++ {
			list, ok := impl.Cascade(m, k)
			wantNoList(t, fmt.Sprintf("Cascade(%d, %d)", m, k), list, ok)
		}
	}
	for _, k := range []int{math.MinInt, -1, 0, 9, 64, math.MaxInt} {
		for _, m := range []int{math.MinInt, 0, 1, 28, 1000000, math.MaxInt} {
			list, ok := impl.Cascade(m, k)
			wantNoList(t, fmt.Sprintf("Cascade(%d, %d)", m, k), list, ok)
		}
	}
}

func TestCascadeIsNewMemory(t *testing.T) {
	first, _ := impl.Cascade(28, 3)
	second, _ := impl.Cascade(28, 3)
	clear(first[:cap(first)])
	wantList(t, "Cascade(28, 3)", second, true, []int{6, 4, 2})
}
