package tests

import (
	"math"
	"slices"
	"strconv"
	"testing"

	"loop.example/g00773/impl"
)

// lastSign stands here as the document has it.
const lastSign = 1114111

func rangeOf(from, to int) impl.Range { return impl.Range{From: from, To: to} }

// spans has ranges of numbers side by side: From, To, From, To and so on.
func spans(ends ...int) []impl.Range {
	var l []impl.Range
	for i := 0; i < len(ends); i += 2 {
		l = append(l, rangeOf(ends[i], ends[i+1]))
	}
	return l
}

// In the document's words.

func rangesOkByWords(l []impl.Range) bool {
	for _, r := range l {
		if r.From < 0 || r.From > lastSign || r.To < r.From || r.To > lastSign {
			return false
		}
	}
	for i := 1; i < len(l); i++ {
		if l[i].From-l[i-1].To <= 1 {
			return false
		}
	}
	return true
}

func inByWords(l []impl.Range, c int) bool {
	return rangesOkByWords(l) && slices.ContainsFunc(l, func(r impl.Range) bool { return r.From <= c && c <= r.To })
}

// rightRanges has the right ranges of the signs that are in, asked at the numbers given alone: between two of them nothing changes.
func rightRanges(edges []int, in func(c int) bool) []impl.Range {
	edges = slices.Clone(edges)
	slices.Sort(edges)
	edges = slices.Compact(edges)
	var out []impl.Range
	open := false
	for _, c := range edges {
		if in(c) && !open {
			out = append(out, rangeOf(c, c))
		}
		if !in(c) && open {
			out[len(out)-1].To = c - 1
		}
		open = in(c)
	}
	return out
}

// edgesOf has each number where a sign is in and the one ahead of it is not, or the other way round.
func edgesOf(l []impl.Range) []int {
	var out []int
	for _, r := range l {
		out = append(out, r.From, r.To+1)
	}
	return out
}

func mixByWords(a, b []impl.Range, in func(c int) bool) []impl.Range {
	if !rangesOkByWords(a) || !rangesOkByWords(b) {
		return nil
	}
	return rightRanges(append(edgesOf(a), edgesOf(b)...), in)
}

func unionByWords(a, b []impl.Range) []impl.Range {
	return mixByWords(a, b, func(c int) bool { return inByWords(a, c) || inByWords(b, c) })
}

func minusByWords(a, b []impl.Range) []impl.Range {
	return mixByWords(a, b, func(c int) bool { return inByWords(a, c) && !inByWords(b, c) })
}

func countByWords(l []impl.Range) int {
	if !rangesOkByWords(l) {
		return 0
	}
	n := 0
	for _, r := range l {
		n += r.To + 1 - r.From
	}
	return n
}

func TestRangesByTheWordsThemselves(t *testing.T) {
	a, b := spans(2, 5, 9, 9), spans(0, 2, 4, 7, 20, 30)
	if got := unionByWords(a, b); !slices.Equal(got, spans(0, 7, 9, 9, 20, 30)) {
		t.Error("union", got)
	}
	if got := minusByWords(a, b); !slices.Equal(got, spans(3, 3, 9, 9)) {
		t.Error("minus", got)
	}
	if got := unionByWords(spans(0, lastSign), nil); !slices.Equal(got, spans(0, lastSign)) {
		t.Error("all", got)
	}
}

// roomyRanges has l with room behind it, and tells whether both are as they were. What stands in the room would go on from l.
func roomyRanges(l []impl.Range) ([]impl.Range, func() bool) {
	all := slices.Clone(l)
	at := 0
	if len(l) > 0 {
		at = l[len(l)-1].To
	}
	for i := range 9 {
		all = append(all, rangeOf(at+2+3*i, at+3+3*i))
	}
	before := slices.Clone(all)
	return all[:len(l)], func() bool { return slices.Equal(all, before) }
}

// spoilRanges writes over all memory of a list, the room behind it included.
func spoilRanges(l []impl.Range) {
	for i := range l[:cap(l)] {
		l[:cap(l)][i] = rangeOf(-8, -9)
	}
}

type mixing struct {
	name    string
	ask     func(a, b []impl.Range) []impl.Range
	byWords func(a, b []impl.Range) []impl.Range
}

var unions = mixing{"Union", impl.Union, unionByWords}
var minuses = mixing{"Minus", impl.Minus, minusByWords}

// want asks the answer, that what was given is left, and that they share nothing.
func (m mixing) want(t *testing.T, a, b, want []impl.Range) {
	t.Helper()
	want = slices.Clone(want)
	givenA, leftA := roomyRanges(a)
	givenB, leftB := roomyRanges(b)
	got := m.ask(givenA, givenB)
	if !slices.Equal(got, want) {
		t.Errorf("%s(%v, %v) = %v, not %v", m.name, a, b, got, want)
	}
	if !leftA() || !leftB() {
		t.Errorf("%s(%v, %v) changed what was given", m.name, a, b)
	}
	spoilRanges(got)
	if !leftA() || !leftB() {
		t.Errorf("%s(%v, %v) shares memory with what was given", m.name, a, b)
	}
	if again := m.ask(givenA, givenB); !slices.Equal(again, want) {
		t.Errorf("%s(%v, %v) = %v behind a change of its answer, not %v", m.name, a, b, again, want)
	}
}

func (m mixing) wantByWords(t *testing.T, a, b []impl.Range) {
	t.Helper()
	m.want(t, a, b, m.byWords(a, b))
}

// wantUnion asks both ways round.
func wantUnion(t *testing.T, a, b, want []impl.Range) {
	t.Helper()
	if !slices.Equal(unionByWords(a, b), want) {
		t.Fatalf("the words have another union of %v and %v than %v", a, b, want)
	}
	unions.want(t, a, b, want)
	unions.want(t, b, a, want)
}

func wantMinus(t *testing.T, a, b, want []impl.Range) {
	t.Helper()
	if !slices.Equal(minusByWords(a, b), want) {
		t.Fatalf("the words have another minus of %v and %v than %v", a, b, want)
	}
	minuses.want(t, a, b, want)
}

// wantOne asks what of one list a function tells, and that the list is left.
func wantOne[T comparable](t *testing.T, what string, l []impl.Range, ask func([]impl.Range) T, want T) {
	t.Helper()
	given, left := roomyRanges(l)
	if got := ask(given); got != want {
		t.Errorf("%s of %v = %v, not %v", what, l, got, want)
	}
	if !left() {
		t.Errorf("%s of %v changed what was given", what, l)
	}
}

func wantRangesOk(t *testing.T, l []impl.Range, want bool) {
	t.Helper()
	if rangesOkByWords(l) != want {
		t.Fatalf("the words have %v of %v", !want, l)
	}
	wantOne(t, "RangesOk", l, impl.RangesOk, want)
}

func wantIn(t *testing.T, l []impl.Range, c int, want bool) {
	t.Helper()
	wantOne(t, "InRanges at "+strconv.Itoa(c), l, func(l []impl.Range) bool { return impl.InRanges(l, c) }, want)
}

func wantCount(t *testing.T, l []impl.Range, want int) {
	t.Helper()
	wantOne(t, "CountOf", l, impl.CountOf, want)
}

func rightRows() [][]impl.Range {
	return [][]impl.Range{
		nil,
		{},
		spans(0, 0),
		spans(lastSign, lastSign),
		spans(0, lastSign),
		spans(7, 7),
		spans(3, 9),
		spans(0, 0, 2, 2),
		spans(2, 5, 9, 9),
		spans(0, 2, 4, 7, 20, 30),
		spans(0, lastSign-2, lastSign, lastSign),
		spans(0, 0, 2, lastSign),
		spans(1, 1, 3, 3, 5, 5, 7, 7, 9, 9),
		spans(0, 10, 12, 20, 30, 40, 42, 42, 50, 60, 1000, lastSign-1),
		spans(0x41, 0x5A, 0x61, 0x7A, 0xD800, 0xDFFF),
		spans(0xD7FF, 0xD800, 0xDFFF, 0xE000),
		spans(lastSign-4, lastSign-4, lastSign-2, lastSign-2, lastSign, lastSign),
	}
}

// notRightRows has rows with one thing wrong.
func notRightRows() [][]impl.Range {
	out := [][]impl.Range{
		spans(-1, -1),
		spans(-1, 0),
		spans(-1, 5),
		spans(lastSign+1, lastSign+1),
		spans(lastSign+1, lastSign),
		spans(0, lastSign+1),
		spans(lastSign, lastSign+1),
		spans(1, 0),
		spans(0, -1),
		spans(5, 4),
		spans(lastSign, lastSign-1),
		spans(lastSign, 0),
		spans(math.MinInt, math.MinInt),
		spans(math.MinInt, math.MaxInt),
		spans(math.MinInt, 5),
		spans(0, math.MaxInt),
		spans(0, math.MinInt),
		spans(math.MaxInt, math.MaxInt),
		spans(math.MaxInt, math.MinInt),
		spans(1<<32, 1<<32+5),
		spans(0, 1<<32+5),
		spans(0, math.MaxInt, 2, 3),
		spans(0, math.MaxInt-1, 2, 3),
		spans(0, math.MaxInt, math.MinInt, 3),
		spans(0, math.MaxInt, math.MinInt+1, 3),
		spans(2, 5, 5, 9),
		spans(2, 5, 6, 9),
		spans(2, 5, 4, 9),
		spans(2, 5, 2, 5),
		spans(2, 5, 3, 4),
		spans(3, 4, 2, 5),
		spans(9, 9, 2, 5),
		spans(0, 0, 1, 1),
		spans(0, lastSign, lastSign, lastSign),
		spans(0, lastSign-1, lastSign, lastSign),
		spans(0, lastSign, lastSign+1, lastSign+1),
		spans(0, lastSign, lastSign+2, lastSign+2),
		spans(0, lastSign, 0, lastSign),
	}
	for at := range 4 {
		for _, bad := range spans(-1, 0, 5, 4, lastSign+1, lastSign+1, 0, lastSign+1, math.MinInt, math.MaxInt, math.MaxInt, math.MinInt) {
			l := spans(10, 11, 20, 25, 30, 30, 40, lastSign)
			l[at] = bad
			out = append(out, l)
		}
	}
	for _, l := range out {
		if rangesOkByWords(l) {
			panic("a right row among the others")
		}
	}
	return out
}

func TestRangesOkOfRightOnes(t *testing.T) {
	for _, l := range rightRows() {
		wantRangesOk(t, l, true)
	}
}

func TestRangesOkOfNotRightOnes(t *testing.T) {
	for _, l := range notRightRows() {
		wantRangesOk(t, l, false)
	}
}

func TestRangesOkAtTheEdges(t *testing.T) {
	wantRangesOk(t, spans(-1, 3), false)
	wantRangesOk(t, spans(0, 3), true)
	wantRangesOk(t, spans(lastSign, lastSign), true)
	wantRangesOk(t, spans(lastSign+1, lastSign+1), false)
	for _, from := range []int{0, 1, 500, lastSign} {
		wantRangesOk(t, spans(from, from-1), false)
		wantRangesOk(t, spans(from, from), true)
		wantRangesOk(t, spans(from, lastSign), true)
		wantRangesOk(t, spans(from, lastSign+1), false)
	}
	for _, to := range []int{0, 1, 500, lastSign - 3} {
		wantRangesOk(t, spans(0, to, to, to+1), false)
		wantRangesOk(t, spans(0, to, to+1, to+1), false)
		wantRangesOk(t, spans(0, to, to+2, to+2), true)
		wantRangesOk(t, spans(0, to, to+3, to+3), true)
	}
}

func TestRangesOkBetweenEachTwo(t *testing.T) {
	for at := 1; at < 6; at++ {
		for step := -3; step <= 4; step++ {
			l := spans(0, 9, 20, 29, 40, 49, 60, 69, 80, 89, 100, 109)
			l[at].From = l[at-1].To + step
			wantRangesOk(t, l, step > 1)
		}
	}
}

func TestRangesOkOfEachTwoOfManyNumbers(t *testing.T) {
	numbers := []int{math.MinInt, math.MinInt + 1, math.MinInt + 2, -2, -1, 0, 1, 2, 3, lastSign - 2, lastSign - 1, lastSign, lastSign + 1, lastSign + 2, 1 << 32, math.MaxInt - 1, math.MaxInt}
	var all []impl.Range
	for _, from := range numbers {
		for _, to := range numbers {
			all = append(all, rangeOf(from, to))
		}
	}
	for _, a := range all {
		for _, b := range all {
			l := []impl.Range{a, b}
			if impl.RangesOk(l) != rangesOkByWords(l) {
				t.Errorf("RangesOk of %v = %v", l, impl.RangesOk(l))
			}
		}
	}
}

func TestRangesOkOfEachThree(t *testing.T) {
	var all []impl.Range
	for from := -1; from <= 5; from++ {
		for to := -1; to <= 5; to++ {
			all = append(all, rangeOf(from, to))
		}
	}
	right := 0
	for _, a := range all {
		for _, b := range all {
			for _, c := range all {
				l := []impl.Range{a, b, c}
				if impl.RangesOk(l) != rangesOkByWords(l) {
					t.Errorf("RangesOk of %v = %v", l, impl.RangesOk(l))
				}
				if rangesOkByWords(l) {
					right++
				}
			}
		}
	}
	// Six numbers side by side have seven edges around them, of which six are the ends of three ranges.
	if right != 7 {
		t.Errorf("%d of them are right", right)
	}
}

func TestInRangesAroundEachEnd(t *testing.T) {
	for _, l := range rightRows() {
		for _, r := range l {
			for _, c := range []int{r.From - 1, r.From, r.From + 1, (r.From + r.To) / 2, r.To - 1, r.To, r.To + 1} {
				wantIn(t, l, c, inByWords(l, c))
			}
			wantIn(t, l, r.From, true)
			wantIn(t, l, r.To, true)
			wantIn(t, l, r.From-1, false)
			wantIn(t, l, r.To+1, false)
		}
		for _, c := range []int{-1, -2, lastSign + 1, lastSign + 2, math.MinInt, math.MaxInt, 1 << 32, 1<<32 + 5} {
			wantIn(t, l, c, false)
		}
	}
}

func TestInRangesByHand(t *testing.T) {
	l := spans(2, 5, 9, 9, 20, 30)
	for c := -2; c <= 40; c++ {
		wantIn(t, l, c, c >= 2 && c <= 5 || c == 9 || c >= 20 && c <= 30)
	}
	all := spans(0, lastSign)
	for _, c := range []int{0, 1, 0xD7FF, 0xD800, 0xDFFF, 0xE000, lastSign - 1, lastSign} {
		wantIn(t, all, c, true)
		wantIn(t, nil, c, false)
	}
}

func TestInRangesOfNotRightOnes(t *testing.T) {
	for _, l := range notRightRows() {
		for _, r := range l {
			for _, c := range []int{r.From, r.To, r.From/2 + r.To/2, 0, 3, 10, 22, 30, lastSign} {
				wantIn(t, l, c, false)
			}
		}
	}
}

func TestUnionByHand(t *testing.T) {
	for _, row := range []struct{ a, b, want []impl.Range }{
		{nil, nil, nil},
		{nil, spans(0, 0), spans(0, 0)},
		{nil, spans(2, 5, 9, 9), spans(2, 5, 9, 9)},
		{[]impl.Range{}, spans(0, lastSign), spans(0, lastSign)},
		{spans(2, 5), spans(6, 9), spans(2, 9)},
		{spans(2, 5), spans(7, 9), spans(2, 5, 7, 9)},
		{spans(2, 5), spans(5, 9), spans(2, 9)},
		{spans(2, 5), spans(4, 9), spans(2, 9)},
		{spans(2, 9), spans(4, 5), spans(2, 9)},
		{spans(2, 9), spans(2, 5), spans(2, 9)},
		{spans(2, 9), spans(5, 9), spans(2, 9)},
		{spans(2, 9), spans(2, 9), spans(2, 9)},
		{spans(2, 5), spans(6, 6), spans(2, 6)},
		{spans(2, 5), spans(1, 1), spans(1, 5)},
		{spans(2, 5), spans(0, 0), spans(0, 0, 2, 5)},
		{spans(2, 5, 7, 9), spans(6, 6), spans(2, 9)},
		{spans(2, 5, 8, 9), spans(6, 6), spans(2, 6, 8, 9)},
		{spans(2, 5, 8, 9), spans(7, 7), spans(2, 5, 7, 9)},
		{spans(2, 5, 8, 9), spans(6, 7), spans(2, 9)},
		{spans(2, 5, 9, 9), spans(7, 7), spans(2, 5, 7, 7, 9, 9)},
		{spans(2, 5, 9, 9, 20, 30), spans(0, 40), spans(0, 40)},
		{spans(2, 5, 9, 9, 20, 30), spans(3, 20), spans(2, 30)},
		{spans(2, 5, 9, 9, 20, 30), spans(6, 19), spans(2, 30)},
		{spans(2, 5, 9, 9, 20, 30), spans(7, 18), spans(2, 5, 7, 18, 20, 30)},
		{spans(0, 40), spans(2, 5, 9, 9, 20, 30, 41, 41), spans(0, 41)},
		{spans(0, 40), spans(2, 5, 9, 9, 20, 30, 42, 42), spans(0, 40, 42, 42)},
		{spans(1, 1, 3, 3, 5, 5), spans(2, 2, 4, 4, 6, 6), spans(1, 6)},
		{spans(1, 1, 5, 5, 9, 9), spans(3, 3, 7, 7, 11, 11), spans(1, 1, 3, 3, 5, 5, 7, 7, 9, 9, 11, 11)},
		{spans(1, 1, 3, 3, 5, 5), spans(7, 7, 9, 9), spans(1, 1, 3, 3, 5, 5, 7, 7, 9, 9)},
		{spans(0, lastSign), spans(0, 0, lastSign, lastSign), spans(0, lastSign)},
		{spans(0, lastSign-1), spans(lastSign, lastSign), spans(0, lastSign)},
		{spans(0, lastSign-2), spans(lastSign, lastSign), spans(0, lastSign-2, lastSign, lastSign)},
		{spans(0, 0), spans(1, lastSign), spans(0, lastSign)},
		{spans(0, 0), spans(2, lastSign), spans(0, 0, 2, lastSign)},
		{spans(0xD700, 0xD7FF), spans(0xD800, 0xDFFF), spans(0xD700, 0xDFFF)},
		{spans(2, 5, 9, 9), spans(0, 2, 4, 7, 20, 30), spans(0, 7, 9, 9, 20, 30)},
	} {
		wantUnion(t, row.a, row.b, row.want)
	}
}

func TestMinusByHand(t *testing.T) {
	for _, row := range []struct{ a, b, want []impl.Range }{
		{nil, nil, nil},
		{nil, spans(2, 5), nil},
		{spans(2, 5), nil, spans(2, 5)},
		{spans(2, 5, 9, 9), []impl.Range{}, spans(2, 5, 9, 9)},
		{spans(2, 5), spans(2, 5), nil},
		{spans(2, 5, 9, 9), spans(2, 5, 9, 9), nil},
		{spans(2, 9), spans(2, 5), spans(6, 9)},
		{spans(2, 9), spans(2, 2), spans(3, 9)},
		{spans(2, 9), spans(0, 2), spans(3, 9)},
		{spans(2, 9), spans(0, 8), spans(9, 9)},
		{spans(2, 9), spans(5, 9), spans(2, 4)},
		{spans(2, 9), spans(9, 9), spans(2, 8)},
		{spans(2, 9), spans(9, 20), spans(2, 8)},
		{spans(2, 9), spans(3, 20), spans(2, 2)},
		{spans(2, 9), spans(4, 5), spans(2, 3, 6, 9)},
		{spans(2, 9), spans(4, 4), spans(2, 3, 5, 9)},
		{spans(2, 9), spans(3, 8), spans(2, 2, 9, 9)},
		{spans(2, 9), spans(0, 20), nil},
		{spans(2, 9), spans(2, 20), nil},
		{spans(2, 9), spans(0, 9), nil},
		{spans(2, 9), spans(10, 20), spans(2, 9)},
		{spans(2, 9), spans(0, 1), spans(2, 9)},
		{spans(2, 9), spans(0, 0, 11, 20), spans(2, 9)},
		{spans(2, 20), spans(4, 5, 8, 8, 11, 15), spans(2, 3, 6, 7, 9, 10, 16, 20)},
		{spans(2, 20), spans(0, 2, 4, 4, 6, 6, 20, 30), spans(3, 3, 5, 5, 7, 19)},
		{spans(2, 5, 9, 9, 20, 30), spans(0, 40), nil},
		{spans(2, 5, 9, 9, 20, 30), spans(9, 9), spans(2, 5, 20, 30)},
		{spans(2, 5, 9, 9, 20, 30), spans(5, 20), spans(2, 4, 21, 30)},
		{spans(2, 5, 9, 9, 20, 30), spans(3, 3, 25, 25), spans(2, 2, 4, 5, 9, 9, 20, 24, 26, 30)},
		{spans(2, 5, 9, 9, 20, 30), spans(6, 8, 10, 19), spans(2, 5, 9, 9, 20, 30)},
		{spans(1, 1, 3, 3, 5, 5), spans(2, 2, 4, 4, 6, 6), spans(1, 1, 3, 3, 5, 5)},
		{spans(1, 6), spans(2, 2, 4, 4, 6, 6), spans(1, 1, 3, 3, 5, 5)},
		{spans(0, lastSign), spans(0, lastSign), nil},
		{spans(0, lastSign), spans(0, 0), spans(1, lastSign)},
		{spans(0, lastSign), spans(lastSign, lastSign), spans(0, lastSign-1)},
		{spans(0, lastSign), spans(0, 0, lastSign, lastSign), spans(1, lastSign-1)},
		{spans(0, lastSign), spans(1, lastSign-1), spans(0, 0, lastSign, lastSign)},
		{spans(0, lastSign), spans(0xD800, 0xDFFF), spans(0, 0xD7FF, 0xE000, lastSign)},
		{spans(2, 5, 9, 9), spans(0, 2, 4, 7, 20, 30), spans(3, 3, 9, 9)},
		{spans(0, 2, 4, 7, 20, 30), spans(2, 5, 9, 9), spans(0, 1, 6, 7, 20, 30)},
	} {
		wantMinus(t, row.a, row.b, row.want)
	}
}

func TestUnionAndMinusOfEachTwoRightRows(t *testing.T) {
	for _, a := range rightRows() {
		unions.want(t, a, a, a)
		unions.want(t, a, nil, a)
		unions.want(t, nil, a, a)
		minuses.want(t, a, a, nil)
		minuses.want(t, a, nil, a)
		minuses.want(t, nil, a, nil)
		for _, b := range rightRows() {
			unions.wantByWords(t, a, b)
			minuses.wantByWords(t, a, b)
		}
	}
}

func TestUnionAndMinusOfNotRightOnes(t *testing.T) {
	for _, bad := range notRightRows() {
		for _, m := range []mixing{unions, minuses} {
			for _, l := range rightRows() {
				m.want(t, bad, l, nil)
				m.want(t, l, bad, nil)
			}
			m.want(t, bad, bad, nil)
			m.want(t, bad, spans(-1, 0), nil)
		}
	}
}

// Two rows that lie side by side in one memory, or over one another.
func TestUnionAndMinusOfRowsInOneMemory(t *testing.T) {
	for _, m := range []mixing{unions, minuses} {
		all := spans(0, 1, 4, 8, 20, 30, 41, 42, 50, 60, 70, 70)
		before := slices.Clone(all)
		for from := range all {
			for to := from; to <= len(all); to++ {
				for cut := range all {
					got := m.ask(all[from:to], all[cut:])
					if want := m.byWords(before[from:to], before[cut:]); !slices.Equal(got, want) {
						t.Errorf("%s of %v and %v in one memory = %v, not %v", m.name, before[from:to], before[cut:], got, want)
					}
					spoilRanges(got)
					if !slices.Equal(all, before) {
						t.Fatalf("%s of %v and %v in one memory changed it", m.name, before[from:to], before[cut:])
					}
				}
			}
		}
	}
}

// signsOf has the numbers base and 0, 1 and so on below width whose bits are set.
func signsOf(bits, base, width int) []impl.Range {
	in := func(c int) bool { return c < base+width && bits>>(c-base)&1 == 1 }
	var edges []int
	for i := range width + 1 {
		edges = append(edges, base+i)
	}
	return rightRanges(edges, in)
}

// wantBits asks sign by sign, those ahead and behind too, whether l has just those whose bits are set.
func wantBits(t *testing.T, what string, l []impl.Range, bits, base, width int) {
	t.Helper()
	count := 0
	for i := -2; i < width+2; i++ {
		want := i >= 0 && i < width && bits>>i&1 == 1
		if impl.InRanges(l, base+i) != want {
			t.Errorf("%s: %v has %d: %v", what, l, base+i, !want)
		}
		if want {
			count++
		}
	}
	if impl.CountOf(l) != count {
		t.Errorf("%s: CountOf of %v = %d, not %d", what, l, impl.CountOf(l), count)
	}
	if !impl.RangesOk(l) {
		t.Errorf("%s: %v is not right", what, l)
	}
}

func TestSmallSetsSignBySign(t *testing.T) {
	const width = 7
	for _, base := range []int{0, 1, 0xD7FD, lastSign - width + 1} {
		var rows [][]impl.Range
		for bits := range 1 << width {
			rows = append(rows, signsOf(bits, base, width))
			wantBits(t, "the set itself", rows[bits], bits, base, width)
		}
		for a := range rows {
			for b := range rows {
				union, minus := impl.Union(rows[a], rows[b]), impl.Minus(rows[a], rows[b])
				wantBits(t, "Union", union, a|b, base, width)
				wantBits(t, "Minus", minus, a&^b, base, width)
				if impl.CountOf(union) != impl.CountOf(minus)+impl.CountOf(rows[b]) {
					t.Errorf("the counts of %v and %v do not add up", rows[a], rows[b])
				}
				if !slices.Equal(union, rows[a|b]) || !slices.Equal(minus, rows[a&^b]) {
					t.Errorf("of %v and %v: %v, %v", rows[a], rows[b], union, minus)
				}
			}
		}
	}
}

func TestSmallSetsAreLeft(t *testing.T) {
	const width = 5
	for a := range 1 << width {
		for b := range 1 << width {
			rowA, rowB := signsOf(a, 3, width), signsOf(b, 3, width)
			unions.want(t, rowA, rowB, signsOf(a|b, 3, width))
			minuses.want(t, rowA, rowB, signsOf(a&^b, 3, width))
		}
	}
}

// ranges has a right row, its ranges and the gaps between them of at most that many signs.
func (s *steady) ranges(most, wide int) []impl.Range {
	var l []impl.Range
	at := s.below(wide)
	for range s.below(most + 1) {
		r := rangeOf(at, at+s.below(wide))
		if r.To > lastSign {
			break
		}
		l = append(l, r)
		at = r.To + 2 + s.below(wide)
	}
	return l
}

func TestRangesForLong(t *testing.T) {
	s := steady{12}
	met := 0
	for range 6000 {
		wide := []int{1, 2, 3, 10, 1000, 200000}[s.below(6)]
		a, b := s.ranges(12, wide), s.ranges(12, wide)
		if s.below(9) == 0 && len(b) > 0 {
			b[s.below(len(b))].From += s.below(5) - 2
		}
		unions.wantByWords(t, a, b)
		unions.wantByWords(t, b, a)
		minuses.wantByWords(t, a, b)
		minuses.wantByWords(t, b, a)
		wantCount(t, b, countByWords(b))
		wantRangesOk(t, b, rangesOkByWords(b))
		if rangesOkByWords(b) && len(impl.Minus(a, b)) > 0 && impl.CountOf(impl.Minus(a, b)) < impl.CountOf(a) {
			met++
		}
	}
	if met < 1000 {
		t.Errorf("only %d rows met", met)
	}
}

// everyOther has each second sign from one on, a range each: no right row is longer.
func everyOther(from int) []impl.Range {
	var l []impl.Range
	for c := from; c <= lastSign; c += 2 {
		l = append(l, rangeOf(c, c))
	}
	return l
}

func TestLongestRows(t *testing.T) {
	even, odd, all := everyOther(0), everyOther(1), spans(0, lastSign)
	for _, row := range []struct {
		what      string
		got, want []impl.Range
	}{
		{"even and odd", impl.Union(even, odd), all},
		{"odd and even", impl.Union(odd, even), all},
		{"even and even", impl.Union(even, even), even},
		{"even and all", impl.Union(even, all), all},
		{"even without odd", impl.Minus(even, odd), even},
		{"even without even", impl.Minus(even, even), nil},
		{"all without even", impl.Minus(all, even), odd},
		{"all without odd", impl.Minus(all, odd), even},
		{"even without all", impl.Minus(even, all), nil},
	} {
		if !slices.Equal(row.got, row.want) {
			t.Errorf("%s: %d ranges, not %d", row.what, len(row.got), len(row.want))
		}
	}
	if impl.CountOf(even) != 557056 || impl.CountOf(odd) != 557056 {
		t.Error("the count of every other sign", impl.CountOf(even), impl.CountOf(odd))
	}
	if !impl.InRanges(odd, lastSign) || impl.InRanges(even, lastSign) {
		t.Error("the last sign is odd")
	}
}

func TestCountOfByHand(t *testing.T) {
	wantCount(t, nil, 0)
	wantCount(t, []impl.Range{}, 0)
	for _, c := range []int{0, 1, 77, lastSign - 1, lastSign} {
		wantCount(t, spans(c, c), 1)
	}
	wantCount(t, spans(0, 1), 2)
	wantCount(t, spans(2, 5), 4)
	wantCount(t, spans(2, 5, 9, 9, 20, 30), 16)
	wantCount(t, spans(0, lastSign), 1114112)
	wantCount(t, spans(0, lastSign-2, lastSign, lastSign), 1114111)
	wantCount(t, spans(0xD800, 0xDFFF), 2048)
}

func TestCountOfRightAndNotRightOnes(t *testing.T) {
	for _, l := range rightRows() {
		wantCount(t, l, countByWords(l))
	}
	for _, l := range notRightRows() {
		wantCount(t, l, 0)
	}
}

func TestKnownRangesAgainstKnown(t *testing.T) {
	l := impl.KnownRanges()
	if !impl.RangesOk(l) || !rangesOkByWords(l) {
		t.Fatalf("KnownRanges are not right: %v", l)
	}
	byList := knownByList(t)
	count := 0
	for c := 0; c <= lastSign; c++ {
		in := impl.InRanges(l, c)
		if in != impl.Known(c) || in != byList[c] {
			t.Errorf("InRanges of KnownRanges at %x: %v", c, in)
		}
		if in {
			count++
		}
	}
	if impl.CountOf(l) != count || count != 11572 {
		t.Errorf("%d known signs, and a CountOf of %d", count, impl.CountOf(l))
	}
}

func TestKnownRangesBehindAChangeOfThem(t *testing.T) {
	first := impl.KnownRanges()
	before := slices.Clone(first)
	spoilRanges(first)
	second := impl.KnownRanges()
	if !slices.Equal(second, before) {
		t.Errorf("KnownRanges behind a change of the first answer: %v", second)
	}
	if !impl.Known('A') || impl.Known('/') || !impl.NameOk("A") {
		t.Error("Known behind a change of KnownRanges")
	}
	spoilRanges(impl.KnownRanges())
	if !slices.Equal(second, before) {
		t.Error("two answers of KnownRanges share memory")
	}
}

func TestKnownRangesMixed(t *testing.T) {
	l, all := impl.KnownRanges(), spans(0, lastSign)
	rest := impl.Minus(all, l)
	unions.want(t, l, rest, all)
	minuses.want(t, all, rest, l)
	minuses.want(t, l, rest, l)
	if impl.CountOf(rest) != 1114112-11572 {
		t.Errorf("%d signs are not known", impl.CountOf(rest))
	}
}
