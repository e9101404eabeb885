package tests

import (
	"fmt"
	"regexp"
	"slices"
	"strconv"
	"strings"
	"testing"

	"loop.example/setshadows/impl"
)

// linesOf makes a script of complete lines.
func linesOf(lines ...string) string {
	var script strings.Builder
	for _, line := range lines {
		script.WriteString(line + "\n")
	}
	return script.String()
}

// wantOutput compares the lines of an output.
func wantOutput(t *testing.T, script string, want ...string) {
	t.Helper()
	if got := impl.Execute(script); got != linesOf(want...) {
		t.Errorf("Execute(%q) returned %q, want %q", script, got, linesOf(want...))
	}
}

func setsLine(f []int) string {
	return fmt.Sprintf("sets %d", len(f))
}

func listByHand(list []int) string {
	if len(list) == 0 {
		return "-"
	}
	return strings.Trim(fmt.Sprint(list), "[]")
}

func listAnswer(list []int, ok bool) string {
	if !ok {
		return "no"
	}
	return listByHand(list)
}

func numberAnswer(number int, ok bool) string {
	if !ok {
		return "no"
	}
	return strconv.Itoa(number)
}

func yesAnswer(holds bool) string {
	if holds {
		return "yes"
	}
	return "not"
}

var scriptNumber = regexp.MustCompile(`\A[0-9]{1,3}\z`)

func numberByHand(text string) int {
	if !scriptNumber.MatchString(text) {
		return -1
	}
	number, _ := strconv.Atoi(text)
	return number
}

// askingWord prints something about the points and the family.
type askingWord struct {
	line string
	want func(n int, f []int) string
}

func flowerWord(leaves int) askingWord {
	return askingWord{fmt.Sprintf("flower %d", leaves), func(n int, f []int) string {
		sets, _, ok := impl.FlowerOf(n, f, leaves)
		return listAnswer(sets, ok)
	}}
}

func askingWords() []askingWord {
	return []askingWord{
		{"show", func(n int, f []int) string { return listByHand(f) }},
		{"count", func(n int, f []int) string { return strconv.Itoa(len(f)) }},
		{"profile", func(n int, f []int) string { return listAnswer(impl.FamilyProfile(n, f)) }},
		{"degrees", func(n int, f []int) string { return listAnswer(impl.FamilyDegrees(n, f)) }},
		{"anti", func(n int, f []int) string { return yesAnswer(impl.AntichainIn(n, f)) }},
		{"meets", func(n int, f []int) string { return yesAnswer(impl.IntersectIn(n, f)) }},
		{"union", func(n int, f []int) string { return yesAnswer(impl.UnionIn(n, f)) }},
		{"weight", func(n int, f []int) string {
			whole, bottom, ok := impl.WeightOf(n, f)
			return listAnswer([]int{whole, bottom}, ok)
		}},
		{"dimension", func(n int, f []int) string { return numberAnswer(impl.TraceDimension(n, f)) }},
		{"edges", func(n int, f []int) string { return numberAnswer(impl.BoundaryEdges(n, f)) }},
		flowerWord(1), flowerWord(2), flowerWord(3), flowerWord(4), flowerWord(5),
	}
}

// changingWord has what becomes of the points and the family.
type changingWord struct {
	line string
	call func(n int, f []int) (int, []int, bool)
}

func familyWord(line string, call func(n int, f []int) ([]int, bool)) changingWord {
	return changingWord{line, func(n int, f []int) (int, []int, bool) {
		made, ok := call(n, f)
		return n, made, ok
	}}
}

func changingWordsAlone() []changingWord {
	return []changingWord{
		familyWord("shadow", impl.ShadowOf),
		familyWord("up", impl.ShadowUp),
		familyWord("down", impl.ClosedDown),
		familyWord("shift", impl.ShiftAll),
		familyWord("press", impl.PressAll),
		familyWord("other", impl.FamilyOther),
	}
}

func pointsWord(text string) changingWord {
	return changingWord{"points " + text, func(n int, f []int) (int, []int, bool) {
		m := numberByHand(text)
		return m, nil, 1 <= m && m <= impl.PointsMax
	}}
}

func setWord(text string) changingWord {
	return familyWord("set "+text, func(n int, f []int) ([]int, bool) {
		s, ok := impl.SetRead(n, text)
		if !ok {
			return nil, false
		}
		return sortedUnion(f, []int{s}), true
	})
}

func levelWord(text string) changingWord {
	return familyWord("level "+text, func(n int, f []int) ([]int, bool) {
		return impl.FamilyLevel(n, numberByHand(text))
	})
}

func firstWord(text string) changingWord {
	return familyWord("first "+text, func(n int, f []int) ([]int, bool) {
		return impl.BoundaryBinary(n, numberByHand(text))
	})
}

var restWords = []string{"points", "set", "level", "first", "flower", "chain", "cascade"}

var lonelyWords = []string{
	"shadow", "up", "down", "shift", "press", "other", "show", "count", "profile", "degrees", "anti", "meets", "union",
	"weight", "dimension", "edges",
}

// opening is a script that leads to some points and a family.
type opening struct {
	script string
	n      int
	f      []int
}

// openingMost leaves room behind an opening for all that the tests ask for.
const openingMost = 300

// setsOpening puts the sets in an order without a rule that one could see.
func setsOpening(n int, f []int) opening {
	script := linesOf(fmt.Sprintf("points %d", n))
	for _, s := range inDisorder(f, n) {
		script += linesOf("set " + textByHand(n, s))
	}
	return opening{script, n, f}
}

// ruledOpenings have many sets in few lines.
func ruledOpenings(n int) []opening {
	head := linesOf(fmt.Sprintf("points %d", n))
	var out []opening
	for k := range n + 1 {
		level := linesOf(fmt.Sprintf("level %d", k))
		out = append(out,
			opening{head + level, n, levelByHand(n, k)},
			opening{head + level + linesOf("set "+textByHand(n, 0)), n, sortedUnion(levelByHand(n, k), []int{0})})
	}
	all := power(n)
	for _, m := range []int{0, 1, all / 2, all - all/4 - 1, all - 1, all} {
		first := linesOf(fmt.Sprintf("first %d", m))
		out = append(out,
			opening{head + first, n, where(n, func(s int) bool { return s < m })},
			opening{head + first + linesOf("other"), n, where(n, func(s int) bool { return s >= all-m })})
	}
	return out
}

func openings(n int) []opening {
	out := ruledOpenings(n)
	for _, f := range slices.Concat(families(n), closedFamilies(n), scatteredFamilies(n, 3)) {
		if o := setsOpening(n, f); len(o.script) <= openingMost {
			out = append(out, o)
		}
	}
	return out
}

func eachOpening(check func(o opening)) {
	for n := 1; n <= impl.PointsMax; n++ {
		for _, o := range openings(n) {
			check(o)
		}
	}
	for _, f := range append(someFamilies(5), scatteredFamilies(5, 3)...) {
		o := setsOpening(5, f)
		// A script begins with 5 points, so it need not tell them.
		o.script = strings.TrimPrefix(o.script, "points 5\n")
		if len(o.script) <= openingMost {
			check(o)
		}
	}
}

// lastLines returns the last lines of the output of a script.
func lastLines(script string, count int) []string {
	lines := strings.Split(impl.Execute(script), "\n")
	lines = lines[:len(lines)-1]
	return lines[max(0, len(lines)-count):]
}

func wantLastLines(t *testing.T, script string, want ...string) {
	t.Helper()
	if got := lastLines(script, len(want)); !slices.Equal(got, want) {
		t.Errorf("Execute(%q) ends with %q, want %q", script, got, want)
	}
}

// benchByHand answers line by line, as the document lists the lines.
type benchByHand struct {
	n int
	f []int
}

func (b *benchByHand) change(words ...changingWord) string {
	for _, w := range words {
		n, f, ok := w.call(b.n, b.f)
		if !ok {
			return "no"
		}
		b.n, b.f = n, f
	}
	return "ok"
}

func (b *benchByHand) alone(line string) string {
	for _, w := range changingWordsAlone() {
		if w.line == line {
			return b.change(w)
		}
	}
	for _, w := range askingWords() {
		if w.line == line {
			return w.want(b.n, b.f)
		}
	}
	return "what"
}

func (b *benchByHand) withRest(word, rest string) string {
	switch word {
	case "points":
		return b.change(pointsWord(rest))
	case "set":
		return b.change(setWord(rest))
	case "level":
		return b.change(levelWord(rest))
	case "first":
		return b.change(firstWord(rest))
	case "flower":
		return flowerWord(numberByHand(rest)).want(b.n, b.f)
	case "chain":
		s, ok := impl.SetRead(b.n, rest)
		if !ok {
			return "no"
		}
		return listAnswer(impl.ChainOf(b.n, s))
	case "cascade":
		return listAnswer(impl.Cascade(numberByHand(rest), 3))
	}
	return "what"
}

func (b *benchByHand) answer(line string) string {
	if at := strings.IndexByte(line, ' '); at >= 0 {
		return b.withRest(line[:at], line[at+1:])
	}
	return b.alone(line)
}

// outputByHand takes one line after the other off a script.
func outputByHand(script string) string {
	if len(script) > 600 {
		return "too long\n"
	}
	b, out := benchByHand{n: 5}, ""
	for {
		at := strings.IndexByte(script, '\n')
		if at < 0 {
			return out + setsLine(b.f) + "\n"
		}
		out += b.answer(script[:at]) + "\n"
		script = script[at+1:]
	}
}

func checkByHand(t *testing.T, script string) {
	t.Helper()
	if got, want := impl.Execute(script), outputByHand(script); got != want {
		t.Errorf("Execute(%q) returned %q, want %q", script, got, want)
	}
}

// tells picks one of several texts for a seed.
func tells(texts []string, at, seed int) string {
	return texts[mixed(at, seed)%uint32(len(texts))]
}

// restTexts are rests, as told and not as told.
func restTexts() []string {
	out := slices.Concat(badNumberTexts(), []string{"0", "1", "2", "3", "4", "5", "6", "8", "9", "03", "004", "32", "33", "100", "256", "999"})
	for n := 1; n <= impl.PointsMax; n++ {
		for seed := range 4 {
			out = append(out, textByHand(n, int(mixed(seed, n))%power(n)))
		}
		out = append(out, badTexts(n)[:3]...)
	}
	return out
}

// likelyLine is mostly a line that is answered by something else than what or no.
func likelyLine(n, at, seed int) string {
	word := tells(slices.Concat(lonelyWords, restWords, []string{"set", "set", "set", "set"}), at, seed)
	if !slices.Contains(restWords, word) {
		return word
	}
	switch word {
	case "set", "chain":
		return word + " " + textByHand(n, int(mixed(at, seed+1))%power(n))
	case "points":
		return word + " " + strconv.Itoa(n)
	case "first", "cascade":
		return word + " " + strconv.Itoa(int(mixed(at, seed+2))%power(n))
	}
	return word + " " + strconv.Itoa(int(mixed(at, seed+3))%(n+1))
}

// oddLine may be any line.
func oddLine(at, seed int) string {
	words := slices.Concat(lonelyWords, restWords, restWords, []string{"", " ", "zzz", "Show", "sets", "to", "what"})
	line := tells(words, at, seed)
	if mixed(at, seed+1)%3 > 0 {
		line += " " + tells(restTexts(), at, seed+2)
	}
	return line
}

// mixedScript has complete lines, at most so many bytes of them.
func mixedScript(seed, most int) string {
	n := 1 + seed%impl.PointsMax
	script := ""
	if seed%3 > 0 || n != 5 {
		script = linesOf(fmt.Sprintf("points %d", n))
	}
	for at := range 1 + int(mixed(seed, 5))%70 {
		line := likelyLine(n, at, 100*seed)
		if mixed(at, seed+7)%6 == 0 {
			line = oddLine(at, 100*seed+50)
		}
		if len(script)+len(line)+1 > most {
			break
		}
		script += linesOf(line)
	}
	return script
}

// noiseScript is made of signs that lines are made of, and of others.
func noiseScript(seed int) string {
	signs := []string{
		"\n", "\n", "\n", " ", "0", "1", "2", "-", "s", "e", "t", "show", "set ", "set 10000", "points ", "points", "up",
		"level ", "first 3", "other", "\x00", "\r", "\t", "\x80", "\xff", "\xc3\xa9", "\u0661", "\u2028",
	}
	script := ""
	for at := range int(mixed(seed, 9)) % 90 {
		script += tells(signs, at, 31*seed+3)
	}
	return script
}

// eachScript calls a check for scripts of complete lines of at most so many bytes.
func eachScript(most int, check func(script string)) {
	check("")
	check("\n")
	eachOpening(func(o opening) { check(o.script) })
	for seed := range 3000 {
		check(mixedScript(seed, most))
	}
	for seed := range 1500 {
		noise := noiseScript(seed)
		noise = noise[:strings.LastIndexByte(noise, '\n')+1]
		if len(noise) <= most {
			check(noise)
		}
	}
	for _, line := range []string{"", "x", "show", "points 3", "set 10110", "up", " "} {
		script := strings.Repeat(linesOf(line), most/(len(line)+1))
		check(script)
		if left := most - len(script); left > 0 {
			check(script + strings.Repeat("\n", left))
			check(linesOf(strings.Repeat("y", left-1)) + script)
		}
	}
}

// badNumberTexts are no numbers.
func badNumberTexts() []string {
	return []string{
		"", " ", "  ", " 1", "1 ", "  1", "1  ", "1 1", "+1", "-1", "-0", "+", "-", "0000", "0001", "1000", "0003", "1234",
		"0000000000000000000001", "99999999999999999999999999", "18446744073709551617", "4294967297",
		"x", "1x", "x1", "1.", "1.0", ".1", "1,", "1_1", "_1", "1_", "0x1", "0b1", "0o1", "1e0", "1e1", "a", "/", ":", "1/", "1:",
		"1\t", "\t1", "1\r", "\r", "1\x00", "\x001", "\x00", "1\xff", "\xff", "\x80", "\xb1", "1\xb1", "\u0661", "\uff11", "\u00b9", "I", "one",
	}
}

// badTexts are no texts of sets of n points.
func badTexts(n int) []string {
	good := strings.Repeat("10", n)[:n]
	out := []string{good + "0", good[1:] + " ", good + "1", "", good[1:], " " + good, good + " ", "  " + good, good + "\r", good + "\x00", good + good, "x", "1 0", "12"}
	for p := range n {
		for _, sign := range []string{"2", "/", "x", " ", "-", "+", "O", "l", "\x00", "\x01", "\x80", "\xb0", "\xb1", "\xff", "\r", "\u0661"} {
			out = append(out, good[:p]+sign+good[p+1:])
		}
	}
	return slices.DeleteFunc(out, func(text string) bool {
		return len(text) == n && strings.Trim(text, "01") == ""
	})
}

func TestPromise95EmptyScriptsAndLastLines(t *testing.T) {
	wantOutput(t, "", "sets 0")
	tails := []string{"show", "set 10000", "set 1", "points 3", "level 1", "first 2", "x", " ", "\x00", "\r", "zzz", strings.Repeat("y", 30)}
	asked := 0
	eachScript(impl.MaxScript-30, func(script string) {
		want := impl.Execute(script)
		if want == "" {
			t.Errorf("Execute(%q) is empty", script)
		}
		// Each script gets some of the tails, the next one others.
		for range 3 {
			tail := tails[asked%len(tails)]
			asked++
			if got := impl.Execute(script + tail); got != want {
				t.Errorf("Execute(%q) returned %q, without %q it returned %q", script+tail, got, tail, want)
			}
		}
	})
	for seed := range 1500 {
		noise := noiseScript(seed)
		complete := noise[:strings.LastIndexByte(noise, '\n')+1]
		if got, want := impl.Execute(noise), impl.Execute(complete); len(noise) <= impl.MaxScript && got != want {
			t.Errorf("Execute(%q) returned %q, without what follows the last newline %q", noise, got, want)
		}
	}
}

// splitLast expects an output with at least one line.
func splitLast(output string) (ahead, last string) {
	at := strings.LastIndexByte(output[:len(output)-1], '\n') + 1
	return output[:at], output[at:]
}

func TestPromise96WhatAndNo(t *testing.T) {
	eachScript(impl.MaxScript-10, func(script string) {
		ahead, last := splitLast(impl.Execute(script))
		longer := script + "zzz\nset x\n"
		if got, want := impl.Execute(longer), ahead+"what\nno\n"+last; got != want {
			t.Errorf("Execute(%q) returned %q, want %q", longer, got, want)
		}
	})
}

func TestPromise97ShowTwice(t *testing.T) {
	eachScript(impl.MaxScript-10, func(script string) {
		ahead, last := splitLast(impl.Execute(script))
		longer := script + "show\nshow\n"
		got := impl.Execute(longer)
		both, gotLast := splitLast(got)
		shown, ok := strings.CutPrefix(both, ahead)
		if !ok || gotLast != last || len(shown)%2 == 1 || strings.Count(shown, "\n") != 2 {
			t.Errorf("Execute(%q) returned %q, without both lines %q", longer, got, ahead+last)
		} else if half := len(shown) / 2; shown[:half] != shown[half:] {
			t.Errorf("Execute(%q) prints %q for the two lines", longer, shown)
		}
	})
}

func TestPromise98Level(t *testing.T) {
	for n := 1; n <= impl.PointsMax; n++ {
		for k := range n + 1 {
			for _, form := range []string{"points %d\nlevel %d\nshow\n", "points %02d\nlevel %02d\nshow\n", "points %03d\nlevel %03d\nshow\n"} {
				level := levelByHand(n, k)
				wantOutput(t, fmt.Sprintf(form, n, k), "ok", "ok", listByHand(level), setsLine(level))
			}
		}
	}
}

func TestPromise99Chain(t *testing.T) {
	eachSet(func(n, s int) {
		chain, ok := impl.ChainOf(n, s)
		if !ok {
			t.Errorf("ChainOf(%d, %d) fails", n, s)
		}
		if byHand := chainByHand(n, s); !slices.Equal(chain, byHand) {
			t.Errorf("ChainOf(%d, %d) is %v, want %v", n, s, chain, byHand)
		}
		script := linesOf(fmt.Sprintf("points %d", n), "chain "+textByHand(n, s))
		wantOutput(t, script, "ok", listByHand(chain), "sets 0")
	})
}

func TestScriptExamples(t *testing.T) {
	wantOutput(t, linesOf("set 11000", "set 10100", "set 01100", "show", "count", "profile", "degrees"),
		"ok", "ok", "ok", "3 5 6", "3", "0 0 3 0 0 0", "2 2 2 0 0", "sets 3")
	wantOutput(t, linesOf("set 11000", "set 10100", "set 01100", "anti", "meets", "union", "weight", "dimension", "edges"),
		"ok", "ok", "ok", "yes", "yes", "not", "3 10", "1", "15", "sets 3")
	wantOutput(t, linesOf("points 3", "set 010", "set 110", "anti", "meets", "union", "weight", "dimension", "edges"),
		"ok", "ok", "ok", "not", "yes", "yes", "2 3", "1", "4", "sets 2")
	wantOutput(t, linesOf("points 2", "set 10", "set 01", "meets", "union", "edges"),
		"ok", "ok", "ok", "not", "not", "4", "sets 2")
	wantOutput(t, linesOf("points 3", "set 111", "shadow", "show", "shadow", "show", "shadow", "show", "shadow", "show"),
		"ok", "ok", "ok", "3 5 6", "ok", "1 2 4", "ok", "0", "ok", "-", "sets 0")
	wantOutput(t, linesOf("points 3", "set 000", "up", "show", "up", "show", "up", "show", "up", "show"),
		"ok", "ok", "ok", "1 2 4", "ok", "3 5 6", "ok", "7", "ok", "-", "sets 0")
	wantOutput(t, linesOf("points 3", "set 101", "down", "show", "other", "show"),
		"ok", "ok", "ok", "0 1 4 5", "ok", "2 3 6 7", "sets 4")
	wantOutput(t, linesOf("points 4", "set 1010", "set 1001", "set 0101", "shift", "show"),
		"ok", "ok", "ok", "ok", "ok", "3 5 6", "sets 3")
	wantOutput(t, linesOf("points 3", "level 2", "press", "show"), "ok", "ok", "ok", "0 2 4", "sets 3")
	wantOutput(t, linesOf("first 3", "show", "first 0", "show"), "ok", "0 1 2", "ok", "-", "sets 0")
	wantOutput(t, linesOf("points 4", "set 1100", "set 1010", "set 0110", "set 1001", "flower 1", "flower 2", "flower 3", "flower 4"),
		"ok", "ok", "ok", "ok", "ok", "3", "3 5", "3 5 9", "no", "sets 4")
	wantOutput(t, linesOf("points 4", "chain 1001", "chain 0000", "chain 1111"),
		"ok", "8 9 11", "0 1 3 7 15", "0 1 3 7 15", "sets 0")
	wantOutput(t, linesOf("cascade 28", "cascade 1", "cascade 2", "cascade 5", "cascade 0"),
		"6 4 2", "3", "3 2", "4 2", "no", "sets 0")
}

// Each line is asked alone too, so that no other line can make up for it.
func TestScriptBeginsWithFivePointsAndNoSets(t *testing.T) {
	for _, x := range [][2]string{
		{"show", "-"}, {"count", "0"}, {"profile", "0 0 0 0 0 0"}, {"degrees", "0 0 0 0 0"}, {"anti", "yes"}, {"meets", "yes"},
		{"union", "yes"}, {"weight", "0 10"}, {"dimension", "-1"}, {"edges", "0"}, {"flower 1", "no"}, {"flower 2", "no"},
		{"shadow", "ok"}, {"up", "ok"}, {"down", "ok"}, {"shift", "ok"}, {"press", "ok"}, {"other", "ok"}, {"first 0", "ok"},
		{"chain 01010", "10 26"}, {"chain 0101", "no"}, {"chain 010100", "no"}, {"cascade 7", "4 3"},
	} {
		wantOutput(t, linesOf(x[0]), x[1], "sets 0")
		wantOutput(t, linesOf(x[0], "degrees", "show"), x[1], "0 0 0 0 0", "-", "sets 0")
	}
	wantOutput(t, linesOf("set 00001"), "ok", "sets 1")
	wantOutput(t, linesOf("level 5"), "ok", "sets 1")
	wantOutput(t, linesOf("level 2"), "ok", "sets 10")
	wantOutput(t, linesOf("level 6"), "no", "sets 0")
	wantOutput(t, linesOf("first 32"), "ok", "sets 32")
	wantOutput(t, linesOf("first 33"), "no", "sets 0")
}

// The family is shown behind each line, as no line that asks changes it.
func TestAskingWords(t *testing.T) {
	eachOpening(func(o opening) {
		var lines, want []string
		for _, w := range askingWords() {
			lines = append(lines, w.line, "show")
			want = append(want, w.want(o.n, o.f), listByHand(o.f))
		}
		wantLastLines(t, o.script+linesOf(lines...), append(want, setsLine(o.f))...)
	})
}

func TestAskingWordsOneByOne(t *testing.T) {
	for n := 1; n <= impl.PointsMax; n++ {
		for i, o := range openings(n) {
			if n == 3 && i%5 > 0 {
				continue
			}
			for _, w := range askingWords() {
				wantLastLines(t, o.script+linesOf(w.line), w.want(n, o.f), setsLine(o.f))
			}
		}
	}
}

func checkChangingWord(t *testing.T, o opening, w changingWord) {
	t.Helper()
	n, f, ok := w.call(o.n, o.f)
	answer := "ok"
	if !ok {
		n, f, answer = o.n, o.f, "no"
	}
	degrees := listAnswer(impl.FamilyDegrees(n, f))
	wantLastLines(t, o.script+linesOf(w.line, "show", "degrees", "count"),
		answer, listByHand(f), degrees, strconv.Itoa(len(f)), setsLine(f))
}

func TestChangingWordsAlone(t *testing.T) {
	eachOpening(func(o opening) {
		for _, w := range changingWordsAlone() {
			checkChangingWord(t, o, w)
		}
	})
}

func TestPointsWord(t *testing.T) {
	eachOpening(func(o opening) {
		for m := range impl.PointsMax + 3 {
			checkChangingWord(t, o, pointsWord(strconv.Itoa(m)))
		}
	})
}

func TestSetWord(t *testing.T) {
	eachOpening(func(o opening) {
		for s := 0; s < power(o.n); s += max(1, power(o.n)/16) + len(o.script)%2 {
			checkChangingWord(t, o, setWord(textByHand(o.n, s)))
		}
		for _, s := range o.f[:min(2, len(o.f))] {
			checkChangingWord(t, o, setWord(textByHand(o.n, s)))
		}
	})
	eachSet(func(n, s int) {
		for _, o := range []opening{setsOpening(n, nil), ruledOpenings(n)[2]} {
			checkChangingWord(t, o, setWord(textByHand(n, s)))
		}
	})
}

func TestLevelAndFirstWords(t *testing.T) {
	eachOpening(func(o opening) {
		for _, m := range []int{0, 1, o.n, o.n + 1, power(o.n), power(o.n) + 1} {
			checkChangingWord(t, o, levelWord(strconv.Itoa(m)))
			checkChangingWord(t, o, firstWord(strconv.Itoa(m)))
		}
	})
}

// numberForms are all ways to write a number.
func numberForms(number int) []string {
	forms := []string{fmt.Sprintf("%d", number), fmt.Sprintf("%02d", number), fmt.Sprintf("%03d", number)}
	return slices.Compact(forms)
}

func TestAllNumbers(t *testing.T) {
	for n := 1; n <= impl.PointsMax; n++ {
		o := setsOpening(n, []int{1, power(n) - 1}[:min(n, 2)])
		for number := range 1000 {
			for _, text := range numberForms(number) {
				checkChangingWord(t, o, pointsWord(text))
				checkChangingWord(t, o, levelWord(text))
				checkChangingWord(t, o, firstWord(text))
				leaves := flowerWord(number).want(n, o.f)
				cascade := listAnswer(impl.Cascade(number, 3))
				wantLastLines(t, o.script+linesOf("flower "+text, "cascade "+text, "show"), leaves, cascade, listByHand(o.f), setsLine(o.f))
			}
		}
	}
}

// wantNo asks for the answer no and for all else as it was.
func wantNo(t *testing.T, o opening, line string) {
	t.Helper()
	degrees := listAnswer(impl.FamilyDegrees(o.n, o.f))
	wantLastLines(t, o.script+linesOf(line, "show", "degrees"), "no", listByHand(o.f), degrees, setsLine(o.f))
}

// fewOpenings have no sets, some and all.
func fewOpenings(n int) []opening {
	out := []opening{setsOpening(n, nil), setsOpening(n, []int{1, power(n) - 1}[:min(n, 2)])}
	return append(out, opening{linesOf(fmt.Sprintf("points %d", n), fmt.Sprintf("first %d", power(n))), n, allByHand(n)})
}

func TestRestsThatAreNoNumbers(t *testing.T) {
	for n := 1; n <= impl.PointsMax; n++ {
		for _, o := range fewOpenings(n) {
			for _, text := range badNumberTexts() {
				for _, word := range []string{"points", "level", "first", "flower", "cascade"} {
					wantNo(t, o, word+" "+text)
				}
			}
		}
	}
}

func TestNumbersOutOfTheirRanges(t *testing.T) {
	for n := 1; n <= impl.PointsMax; n++ {
		for _, o := range fewOpenings(n) {
			for _, line := range []string{
				"points 0", "points 00", "points 000", "points 9", "points 09", "points 009", "points 10", "points 64", "points 256", "points 999",
				fmt.Sprintf("level %d", n+1), fmt.Sprintf("level %03d", n+1), "level 9", "level 64", "level 999",
				fmt.Sprintf("first %d", power(n)+1), fmt.Sprintf("first %03d", power(n)+1), "first 257", "first 999",
				"flower 0", "flower 000", "flower 5", "flower 005", "flower 6", "flower 999", "cascade 0", "cascade 00", "cascade 000",
			} {
				wantNo(t, o, line)
			}
		}
		wantNo(t, setsOpening(n, nil), "flower 1")
		wantNo(t, setsOpening(n, []int{0}), "flower 2")
	}
}

func TestRestsThatAreNoTexts(t *testing.T) {
	for n := 1; n <= impl.PointsMax; n++ {
		for _, o := range fewOpenings(n) {
			for _, text := range badTexts(n) {
				wantNo(t, o, "set "+text)
				wantNo(t, o, "chain "+text)
			}
			for m := range 2*impl.PointsMax + 1 {
				if m != n {
					wantNo(t, o, "set "+strings.Repeat("1", m))
					wantNo(t, o, "chain "+strings.Repeat("0", m))
				}
			}
		}
	}
}

// wantWhat asks for the answer what and for all else as it was.
func wantWhat(t *testing.T, line string) {
	t.Helper()
	wantOutput(t, linesOf(line), "what", "sets 0")
	wantOutput(t, linesOf("points 3", "set 101", "set 011", line, "show", "degrees"),
		"ok", "ok", "ok", "what", "5 6", "1 1 2", "sets 2")
}

func TestLinesWithARestWhereNoneIsTold(t *testing.T) {
	for _, word := range lonelyWords {
		for _, rest := range []string{"", " ", "  ", "x", "0", "1", "3", "101", word, "\r", "\x00", "\xff"} {
			wantWhat(t, word+" "+rest)
		}
	}
}

func TestLinesWithoutARestWhereOneIsTold(t *testing.T) {
	for _, word := range restWords {
		wantWhat(t, word)
		for _, rest := range []string{"1", "3", "101", "\t1", "\t101", "\r", "\x001", "\u00a03", "\u2003101", "=1", "-1"} {
			wantWhat(t, word+rest)
		}
		wantNo(t, setsOpening(3, []int{5, 6}), word+" ")
	}
}

func TestLinesOfOtherWords(t *testing.T) {
	for _, word := range slices.Concat(lonelyWords, restWords) {
		for _, other := range []string{
			" " + word, "\t" + word, "\x00" + word, "\xff" + word, "\r" + word, word + "\r", word + "\t", word + "\x00", word + "\xff", word + "\x80",
			word + "\u00a0", word + ".", word + "s", word + "x", "x" + word, word[:len(word)-1], word[1:], word + word,
			strings.ToUpper(word), strings.ToUpper(word[:1]) + word[1:], word + "-", "-" + word, word[:1] + " " + word[1:], "\ufeff" + word,
		} {
			wantWhat(t, other)
			if !strings.Contains(other, " ") || strings.HasPrefix(other, " ") {
				wantWhat(t, other+" 1")
				wantWhat(t, other+" 101")
			}
		}
	}
	for _, line := range []string{
		"", " ", "  ", "   ", " 1", "  show", "zzz", "zzz 1", "sets", "sets 0", "too long", "what", "no", "ok", "yes", "not", "-", "0", "101", "5",
		"help", "quit", "set101", "points3", "showcount", "show;count", "#", "// show", "\x00", "\x00\x00", "\x7f", "\x80", "\xff", "\r", "\t", "\v", "\f",
		"\u00e9", "\u2028", "\u0085", "show\u2028count", "show\rcount", "show\x00",
		"up1", "level", "first", "closed", "rest", "link", "trace", "kernel", "boundary", "star", "ball", "FamilyLevel", "ClosedDown",
	} {
		wantWhat(t, line)
	}
}

func TestEachSignAsALine(t *testing.T) {
	for sign := range 256 {
		if sign == '\n' {
			continue
		}
		line := string([]byte{byte(sign)})
		wantWhat(t, line)
		wantWhat(t, "show"+line)
		wantWhat(t, line+"show")
		o := setsOpening(3, []int{5, 6})
		if sign < '0' || sign > '9' {
			wantNo(t, o, "points "+line)
			wantNo(t, o, "cascade 1"+line)
			wantNo(t, o, "cascade "+line+"1")
		}
		if sign != '0' && sign != '1' {
			wantNo(t, o, "set 1"+line+"1")
			wantNo(t, o, "chain 10"+line)
		}
	}
}

func TestSpacesInLines(t *testing.T) {
	o := setsOpening(3, []int{5, 6})
	for _, line := range []string{
		"set  101", "set 101 ", "set 101  ", "set 101 101", "set 1 1", "set 10 1", "set   ", "set  ", "points  3", "points 3 ", "points 3 3", "points  ",
		"level  1", "level 1 ", "level 1 1", "first  1", "first 1 ", "flower  1", "flower 1 ", "chain  101", "chain 101 ", "cascade  7", "cascade 7 ", "cascade 7 3",
	} {
		wantNo(t, o, line)
	}
	for _, line := range []string{" set 101", " points 3", "  points 3", "show ", "show  ", " show", " show ", "count 1", "up ", "other ", " other"} {
		wantWhat(t, line)
	}
}

// The points are asked by degrees, which has a number for each.
func TestFailedLinesKeepThePoints(t *testing.T) {
	for n := 1; n <= impl.PointsMax; n++ {
		script := linesOf(fmt.Sprintf("points %d", n), "points 9", "points 0", "points x", "points", "points ", "degrees", "set "+textByHand(n, 1), "degrees")
		wantOutput(t, script, "ok", "no", "no", "no", "what", "no", listByHand(make([]int, n)), "ok", listByHand(append([]int{1}, make([]int, n-1)...)), "sets 1")
	}
}

func TestPointsLeaveNoSets(t *testing.T) {
	for n := 1; n <= impl.PointsMax; n++ {
		for m := 1; m <= impl.PointsMax; m++ {
			wantOutput(t, linesOf(fmt.Sprintf("points %d", n), "level 1", fmt.Sprintf("points %d", m), "show", "count", "degrees"),
				"ok", "ok", "ok", "-", "0", listByHand(make([]int, m)), "sets 0")
			// A set of the earlier points is not there once they come back.
			wantOutput(t, linesOf(fmt.Sprintf("points %d", n), "first 1", fmt.Sprintf("points %d", m), fmt.Sprintf("points %d", n), "show"),
				"ok", "ok", "ok", "ok", "-", "sets 0")
		}
	}
}

func TestWordsThatReplaceTheFamily(t *testing.T) {
	eachOpening(func(o opening) {
		level, first := levelByHand(o.n, 1), []int{0, 1}
		wantLastLines(t, o.script+linesOf("level 1", "show", "first 2", "show"), "ok", listByHand(level), "ok", listByHand(first), "sets 2")
	})
}

func TestSetsInAnyOrderAndMoreThanOnce(t *testing.T) {
	wantOutput(t, linesOf("set 00001", "set 10000", "set 01000", "set 10000", "set 00001", "show", "count"),
		"ok", "ok", "ok", "ok", "ok", "1 2 16", "3", "sets 3")
	for n := 1; n <= impl.PointsMax; n++ {
		last := strings.Repeat("1", n)
		none := strings.Repeat("0", n)
		wantOutput(t, linesOf(fmt.Sprintf("points %d", n), "set "+last, "set "+none, "set "+last, "show"),
			"ok", "ok", "ok", "ok", listByHand([]int{0, power(n) - 1}), "sets 2")
	}
}

func TestScriptsWithoutCompleteLines(t *testing.T) {
	for _, script := range []string{"", "show", "set 10000", "level 1", "points 3", "zzz", " ", "\r", "\x00", "\xff", "too long", strings.Repeat("x", 600), strings.Repeat(" ", 600), strings.Repeat("\r", 600)} {
		wantOutput(t, script, "sets 0")
	}
	wantOutput(t, "\nset 10000", "what", "sets 0")
	wantOutput(t, "set 10000\nset 01000", "ok", "sets 1")
	wantOutput(t, "set 10000\npoints 3", "ok", "sets 1")
	wantOutput(t, "set 10000\nshow\nx", "ok", "1", "sets 1")
	wantOutput(t, "set 10000\r\nshow\r\n", "no", "what", "sets 0")
	wantOutput(t, "set 10000\rshow\r", "sets 0")
}

func TestScriptsOfEmptyLines(t *testing.T) {
	for count := range 601 {
		script := strings.Repeat("\n", count)
		want := append(slices.Repeat([]string{"what"}, count), "sets 0")
		wantOutput(t, script, want...)
	}
	wantOutput(t, "\n\nset 10000\n\nshow\n\n", "what", "what", "ok", "what", "1", "what", "sets 1")
}

func TestMaxScript(t *testing.T) {
	if impl.MaxScript != 600 {
		t.Errorf("MaxScript is %d, want 600", impl.MaxScript)
	}
}

func TestScriptsOfTheGreatestLength(t *testing.T) {
	set := "set 10000\n"
	for _, x := range []struct {
		script string
		want   []string
	}{
		{strings.Repeat(set, 60), append(slices.Repeat([]string{"ok"}, 60), "sets 1")},
		{strings.Repeat(set, 59) + "set 10000x", append(slices.Repeat([]string{"ok"}, 59), "sets 1")},
		{strings.Repeat("x", 599) + "\n", []string{"what", "sets 0"}},
		{"set " + strings.Repeat("0", 595) + "\n", []string{"no", "sets 0"}},
		{"points " + strings.Repeat("0", 591) + "3\n", []string{"no", "sets 0"}},
		{set + strings.Repeat("x", 590), []string{"ok", "sets 1"}},
		{strings.Repeat("\u2028", 196) + "\n" + set + "\n", []string{"what", "ok", "what", "sets 1"}},
		{strings.Repeat("\xff", 589) + "\n" + set, []string{"what", "ok", "sets 1"}},
		{strings.Repeat("\x00", 589) + "\n" + set, []string{"what", "ok", "sets 1"}},
	} {
		if len(x.script) != 600 {
			t.Fatalf("the script %q has %d bytes", x.script, len(x.script))
		}
		wantOutput(t, x.script, x.want...)
	}
}

func TestScriptsThatAreTooLong(t *testing.T) {
	set := "set 10000\n"
	for _, script := range []string{
		strings.Repeat(set, 60) + "\n", strings.Repeat(set, 60) + "x", "x" + strings.Repeat(set, 60), strings.Repeat(set, 61), strings.Repeat(set, 6000),
		strings.Repeat("\n", 601), strings.Repeat("x", 601), strings.Repeat(" ", 601), strings.Repeat("x", 600) + "\n", "\n" + strings.Repeat("x", 600),
		strings.Repeat("\x00", 601), strings.Repeat("\xff", 601), strings.Repeat("\u00e9", 301), strings.Repeat("\u2028", 201), strings.Repeat("\U0001f600", 151),
		strings.Repeat("\u00e9", 300) + "\n", set + strings.Repeat("x", 591), set + strings.Repeat("\n", 591), strings.Repeat("y", 100000),
	} {
		if got := impl.Execute(script); got != "too long\n" {
			t.Errorf("Execute of %d bytes, %q, returned %q, want %q", len(script), script, got, "too long\n")
		}
	}
}

// The document's list of lines is followed a second time.
func TestScriptsByHand(t *testing.T) {
	eachScript(impl.MaxScript, func(script string) { checkByHand(t, script) })
	for seed := range 4000 {
		checkByHand(t, noiseScript(seed))
	}
	for seed := range 1500 {
		script := mixedScript(7*seed+3, 605)
		checkByHand(t, script)
		checkByHand(t, script[:len(script)*3/4])
		checkByHand(t, script+oddLine(seed, 4))
	}
}

// Each output has a line for each line of the script, and one more.
func TestOutputsHaveALineForEachLine(t *testing.T) {
	last := regexp.MustCompile(`(?s)(\A|\n)sets (0|[1-9][0-9]*)\n\z`)
	eachScript(impl.MaxScript, func(script string) {
		output := impl.Execute(script)
		if !last.MatchString(output) || strings.Count(output, "\n") != strings.Count(script, "\n")+1 || strings.Contains(output, "\n\n") {
			t.Errorf("Execute(%q) returned %q, which has other lines than one for each line and the last one", script, output)
		}
	})
}

func TestScriptsKeepNoState(t *testing.T) {
	var scripts, first []string
	eachScript(impl.MaxScript, func(script string) { scripts = append(scripts, script) })
	scripts = append(scripts, "show\ndegrees\n", "points 3\nset 101\n", "points 8\nfirst 256\n", strings.Repeat("x", 601), "zzz\nset x\n")
	for _, script := range scripts {
		first = append(first, impl.Execute(script))
	}
	for i, script := range slices.Backward(scripts) {
		if again := impl.Execute(script); again != first[i] {
			t.Errorf("Execute(%q) returned %q, and returned %q before", script, again, first[i])
		}
	}
	for i, script := range scripts {
		impl.Execute("points 2\nlevel 1\nzzz\n")
		impl.FamilyLevel(4, 2)
		if again := impl.Execute(script); again != first[i] {
			t.Errorf("Execute(%q) returned %q, and returned %q before", script, again, first[i])
		}
	}
}

// Several callers at the same time get the outputs that one gets.
func TestScriptsForSeveralCallers(t *testing.T) {
	var want []string
	for seed := range 40 {
		want = append(want, impl.Execute(mixedScript(seed, 600)))
	}
	outputs := make(chan []string)
	for range 8 {
		go func() {
			var got []string
			for seed := range 40 {
				got = append(got, impl.Execute(mixedScript(seed, 600)))
			}
			outputs <- got
		}()
	}
	for range 8 {
		if got := <-outputs; !slices.Equal(got, want) {
			t.Errorf("several callers get %q, one gets %q", got, want)
		}
	}
}
