package tests

import (
	"math"
	"slices"
	"testing"

	"loop.example/g00773/impl"
)

// composeWords answers in the document's words; of two signs it knows each pair there is.
type composeWords struct {
	nameWords
	pairs map[[2]int]int
}

func newComposeWords(t *testing.T) composeWords {
	w := composeWords{newNameWords(t), map[[2]int]int{}}
	for c, parts := range w.parts {
		if len(parts) == 2 {
			w.pairs[[2]int{parts[0], parts[1]}] = c
		}
	}
	for c := 0xAC00; c <= 0xD7A3; c++ {
		parts := w.partsOf(c)
		if len(parts) == 2 {
			w.pairs[[2]int{parts[0], parts[1]}] = c
		} else {
			w.pairs[[2]int{c - (parts[2] - 0x11A7), parts[2]}] = c
		}
	}
	return w
}

func (w composeWords) compose(l []int) []int {
	var out []int
	for _, c := range w.apart(l) {
		at := len(out) - 1
		for at >= 0 && classByList(out[at]) > 0 {
			at--
		}
		if at >= 0 {
			last := classByList(out[len(out)-1])
			free := at == len(out)-1 || last > 0 && last < classByList(c)
			if made, is := w.pairs[[2]int{out[at], c}]; free && is {
				out[at] = made
				continue
			}
		}
		out = append(out, c)
	}
	return out
}

func unitsByWords(l []int) [][]int {
	var begins []int
	for i, c := range l {
		if i == 0 || classByList(c) == 0 {
			begins = append(begins, i)
		}
	}
	var out [][]int
	for i, from := range begins {
		to := len(l)
		if i+1 < len(begins) {
			to = begins[i+1]
		}
		out = append(out, slices.Clone(l[from:to]))
	}
	return out
}

func TestComposeByTheWordsThemselves(t *testing.T) {
	w := newComposeWords(t)
	if len(w.pairs) != 73+19*21*28 {
		t.Fatalf("the words have %d pairs", len(w.pairs))
	}
	for _, x := range [][2][]int{
		{{0x61, 0x302, 0x323}, {0x1EAD}}, {{0x61, 0x304, 0x301}, {0x61, 0x304, 0x301}}, {{0x212B}, {0xC5}}, {{0x1100, 0x1161, 0x11A8, 0x11A8}, {0xAC01, 0x11A8}},
	} {
		if got := w.compose(x[0]); !slices.Equal(got, x[1]) {
			t.Errorf("the words make %x of %x", got, x[0])
		}
	}
	if got := unitsByWords([]int{0x301, 0x61, 0x323, 0x302, 0x62}); !slices.EqualFunc(got, [][]int{{0x301}, {0x61, 0x323, 0x302}, {0x62}}, slices.Equal) {
		t.Errorf("the words have the units %x", got)
	}
}

// roomySigns has l with room behind it, and tells whether both are as they were. What stands in the room would go on from each letter.
func roomySigns(l []int) ([]int, func() bool) {
	all := append(slices.Clone(l), 0x327, 0x323, 0x301, 0x308, 0x1100, 0x1161, 0x11A8, 0x61, 0x30A)
	before := slices.Clone(all)
	return all[:len(l)], func() bool { return slices.Equal(all, before) }
}

// spoilSigns writes over all memory of a list, the room behind it included.
func spoilSigns(l []int) {
	for i := range l[:cap(l)] {
		l[:cap(l)][i] = -8
	}
}

func wantPair(t *testing.T, a, b, want int, is bool) {
	t.Helper()
	if got, ok := impl.Pair(a, b); got != want || ok != is {
		t.Errorf("Pair(%x, %x) = %x, %v, not %x, %v", a, b, got, ok, want, is)
	}
}

func wantNoPair(t *testing.T, a, b int) {
	t.Helper()
	wantPair(t, a, b, 0, false)
}

func (w composeWords) wantPair(t *testing.T, a, b int) {
	t.Helper()
	want, is := w.pairs[[2]int{a, b}]
	wantPair(t, a, b, want, is)
	if !is {
		return
	}
	if one, both := impl.Apart([]int{want}), impl.Apart([]int{a, b}); !slices.Equal(one, both) {
		t.Errorf("Pair(%x, %x) is %x: apart it is %x, and both are %x", a, b, want, one, both)
	}
}

// wantCompose asks the answer, what the promise has of it, that what was given is left, and that they share nothing.
func wantCompose(t *testing.T, l []int, want ...int) {
	t.Helper()
	given, left := roomySigns(l)
	got := impl.Compose(given)
	if !slices.Equal(got, want) {
		t.Errorf("Compose(%x) = %x, not %x", l, got, want)
	}
	if !slices.Equal(impl.Apart(got), impl.Apart(given)) {
		t.Errorf("Compose(%x) = %x: apart it is %x, not %x", l, got, impl.Apart(got), impl.Apart(given))
	}
	for name, again := range map[string][]int{"Compose": impl.Compose(got), "Apart": impl.Compose(impl.Apart(given))} {
		if !slices.Equal(again, want) {
			t.Errorf("Compose of %s of %x = %x, not %x", name, l, again, want)
		}
	}
	spoilSigns(got)
	if !left() {
		t.Errorf("Compose(%x) changed what was given, or shares memory with it", l)
	}
	if again := impl.Compose(given); !slices.Equal(again, want) {
		t.Errorf("Compose(%x) = %x behind a change of its answer, not %x", l, again, want)
	}
}

func (w composeWords) wantCompose(t *testing.T, l []int) {
	t.Helper()
	wantCompose(t, l, w.compose(l)...)
}

// wantUnits asks the rows, that they are all signs in order, that what was given is left, and that no two share memory.
func wantUnits(t *testing.T, l []int, want ...[]int) {
	t.Helper()
	given, left := roomySigns(l)
	got := impl.Units(given)
	if !slices.EqualFunc(got, want, slices.Equal) {
		t.Errorf("Units(%x) = %x, not %x", l, got, want)
		return
	}
	if !slices.Equal(slices.Concat(got...), l) {
		t.Errorf("Units(%x) = %x, which are other signs", l, got)
	}
	for i, row := range got {
		if len(row) == 0 || i > 0 && classByList(row[0]) > 0 || slices.ContainsFunc(row[1:], func(c int) bool { return classByList(c) == 0 }) {
			t.Errorf("Units(%x): the row %x", l, row)
		}
	}
	for i, row := range got {
		if !slices.Equal(row, want[i]) {
			t.Errorf("Units(%x): row %d is %x behind a change of those ahead", l, i, row)
		}
		spoilSigns(row)
	}
	if !left() {
		t.Errorf("Units(%x) changed what was given, or shares memory with it", l)
	}
	if again := impl.Units(given); !slices.EqualFunc(again, want, slices.Equal) {
		t.Errorf("Units(%x) = %x behind a change of its answer, not %x", l, again, want)
	}
}

func TestPairByHand(t *testing.T) {
	for _, x := range [][3]int{
		{0x61, 0x30A, 0xE5}, {0x41, 0x30A, 0xC5}, {0x79, 0x308, 0xFF}, {0x63, 0x327, 0xE7}, {0x4E, 0x303, 0xD1},
		{0x3B1, 0x301, 0x3AC}, {0x3A9, 0x301, 0x38F}, {0x41, 0x323, 0x1EA0},
		{0x1EA0, 0x302, 0x1EAC}, {0x1EA1, 0x302, 0x1EAD}, {0xDC, 0x304, 0x1D5}, {0xFC, 0x304, 0x1D6},
		{0x1100, 0x1161, 0xAC00}, {0x1100, 0x1162, 0xAC1C}, {0x1101, 0x1161, 0xAE4C}, {0x1112, 0x1175, 0xD788},
		{0xAC00, 0x11A8, 0xAC01}, {0xAC00, 0x11C2, 0xAC1B}, {0xAC1C, 0x11A8, 0xAC1D}, {0xD788, 0x11C2, 0xD7A3},
	} {
		wantPair(t, x[0], x[1], x[2], true)
		wantNoPair(t, x[1], x[0])
	}
	for _, x := range [][2]int{
		{0x61, 0x62}, {0x61, 0x61}, {0x61, 0x304}, {0x61, 0x327}, {0x62, 0x301}, {0x59, 0x308}, {0x65, 0x303}, {0x20, 0x301},
		{0x301, 0x301}, {0x301, 0x61}, {0x323, 0x302}, {0xE5, 0x30A}, {0xE2, 0x323}, {0x1EAD, 0x302}, {0x1D6, 0x304}, {0xC5, 0x304},
		{0x430, 0x301}, {0x3B1, 0x300}, {0x3C2, 0x301}, {0x391, 0x308}, {0x2126, 0x301}, {0x212B, 0x301}, {0xC6, 0x301},
	} {
		wantNoPair(t, x[0], x[1])
	}
}

// What is made of one sign is made of no two: not of it and nothing, nor of it and sign 0.
func TestPairOfWhatIsMadeOfOne(t *testing.T) {
	for _, c := range []int{0x2126, 0x212B} {
		part := impl.Parts(c)[0]
		for _, other := range []int{0, -1, 1, c, part, 0x300, 0x302, 0x304, 0x308, 0x323, 0x327} {
			wantNoPair(t, part, other)
			wantNoPair(t, other, part)
			wantNoPair(t, c, other)
			wantNoPair(t, other, c)
		}
	}
	for c := range 0x2200 {
		wantNoPair(t, c, 0)
		wantNoPair(t, 0, c)
	}
}

func TestPairAgainstParts(t *testing.T) {
	two, three := 0, 0
	for c := -3000; c <= impl.MaxSign+3000; c++ {
		parts := impl.Parts(c)
		switch len(parts) {
		case 2:
			two++
			wantPair(t, parts[0], parts[1], c, true)
			wantNoPair(t, parts[1], parts[0])
		case 3:
			three++
			short, ok := impl.Pair(parts[0], parts[1])
			if !ok || !slices.Equal(impl.Parts(short), parts[:2]) {
				t.Errorf("%x is made of %x: Pair of the first two is %x, %v", c, parts, short, ok)
			}
			wantPair(t, short, parts[2], c, true)
			wantNoPair(t, parts[2], short)
			wantNoPair(t, parts[1], parts[2])
			wantNoPair(t, parts[0], parts[2])
		}
	}
	if two != 73+19*21 || three != 19*21*27 {
		t.Errorf("%d signs are made of two, %d of three", two, three)
	}
}

// secondSigns are all that is the second one of a pair, and those beside them.
func secondSigns() []int {
	var out []int
	for _, m := range markClasses {
		out = append(out, m[0])
	}
	for c := 0x1160; c <= 0x1176; c++ {
		out = append(out, c)
	}
	for c := 0x11A7; c <= 0x11C3; c++ {
		out = append(out, c)
	}
	return append(out, 0, 0x41, 0x61, 0x2FF, 0x305, 0x307, 0x309, 0x30B, 0x322, 0x324, 0x326, 0x328, 0x1100, 0xAC00)
}

func TestPairOfEachFirst(t *testing.T) {
	w := newComposeWords(t)
	seconds := secondSigns()
	ask := func(from, to int) {
		for a := from; a <= to; a++ {
			for _, b := range seconds {
				w.wantPair(t, a, b)
			}
		}
	}
	ask(-0x100, 0x400)
	ask(0x1080, 0x1200)
	ask(0x1E80, 0x1F00)
	ask(0x2120, 0x2130)
	ask(0xAB00, 0xAC60)
	ask(0xD700, 0xD820)
	ask(0x10FFF0, 0x110010)
	for a := 0xAC00; a <= 0xD7A3; a++ {
		for b := 0x11A0; b <= 0x11C8; b++ {
			w.wantPair(t, a, b)
		}
		w.wantPair(t, a, 0x301)
		w.wantPair(t, a, 0x1161)
	}
}

func TestPairOfEachSecond(t *testing.T) {
	w := newComposeWords(t)
	for _, a := range []int{-1, 0, 0x41, 0x61, 0x75, 0xDC, 0x1EA1, 0x3B1, 0x3A9, 0x301, 0x1100, 0x1112, 0xAC00, 0xAC01, 0xD788, 0xD7A3} {
		for b := -3000; b <= impl.MaxSign+3000; b++ {
			w.wantPair(t, a, b)
		}
	}
	for pair := range w.pairs {
		if pair[0] >= 0x1100 && pair[0] <= 0x1112 || pair[0] >= 0xAC00 {
			continue
		}
		for b := 0x2F0; b <= 0x330; b++ {
			w.wantPair(t, pair[0], b)
			w.wantPair(t, b, pair[0])
		}
	}
}

func TestPairOfEachTwoHangulSigns(t *testing.T) {
	for lead := 0x1100; lead <= 0x1112; lead++ {
		for vowel := 0x1161; vowel <= 0x1175; vowel++ {
			open := 0xAC00 + 588*(lead-0x1100) + 28*(vowel-0x1161)
			wantPair(t, lead, vowel, open, true)
			if got := impl.Parts(open); !slices.Equal(got, []int{lead, vowel}) {
				t.Errorf("Parts(%x) = %x", open, got)
			}
			for tail := 0x11A8; tail <= 0x11C2; tail++ {
				closed := open + tail - 0x11A7
				wantPair(t, open, tail, closed, true)
				if got := impl.Parts(closed); !slices.Equal(got, []int{lead, vowel, tail}) {
					t.Errorf("Parts(%x) = %x", closed, got)
				}
				for _, other := range []int{0x11A7, 0x11A8, tail, 0x11C2, 0x11C3} {
					wantNoPair(t, closed, other)
				}
				wantNoPair(t, lead, tail)
				wantNoPair(t, vowel, tail)
			}
			wantNoPair(t, open, 0x11A7)
			wantNoPair(t, open, 0x11C3)
			wantNoPair(t, open, vowel)
			wantNoPair(t, open, open)
			wantNoPair(t, lead, open)
			wantNoPair(t, vowel, lead)
			wantNoPair(t, lead, lead)
			wantNoPair(t, vowel, vowel)
		}
	}
}

func TestPairBesideTheHangulRows(t *testing.T) {
	for _, lead := range []int{0x10FF, 0x1113} {
		for vowel := 0x115F; vowel <= 0x1177; vowel++ {
			wantNoPair(t, lead, vowel)
		}
	}
	for _, vowel := range []int{0x1160, 0x1176} {
		for lead := 0x10FE; lead <= 0x1114; lead++ {
			wantNoPair(t, lead, vowel)
		}
	}
	// 28 divides how far each of these is from AC00; only those in the row are syllables.
	for _, at := range []int{-28 * 400, -56, -28, 0, 28, 11172 - 28, 11172, 11172 + 28, 11172 + 588} {
		inside := at >= 0 && at < 11172
		wantNoPair(t, 0xAC00+at, 0x11A7)
		wantNoPair(t, 0xAC00+at, 0x11C3)
		for _, tail := range []int{0x11A8, 0x11A9, 0x11C1, 0x11C2} {
			if inside {
				wantPair(t, 0xAC00+at, tail, 0xAC00+at+tail-0x11A7, true)
			} else {
				wantNoPair(t, 0xAC00+at, tail)
			}
			for _, beside := range []int{-27, -14, -1, 1, 2, 7, 14, 27} {
				wantNoPair(t, 0xAC00+at+beside, tail)
			}
		}
	}
	for _, c := range []int{0xAC00 - 1, 0xD7A4, 0x11A7, 0xAC01, 0xAC1B, 0xD7A3} {
		for tail := 0x11A0; tail <= 0x11C8; tail++ {
			wantNoPair(t, c, tail)
			wantNoPair(t, tail, c)
		}
		for vowel := 0x1160; vowel <= 0x1176; vowel++ {
			wantNoPair(t, c, vowel)
		}
	}
}

// farSigns look like letters, marks or Hangul signs where an int goes round or bits are lost.
func farSigns() []int {
	out := slices.Clone(farNumbers)
	for _, c := range []int{0x61, 0x301, 0x30A, 0x323, 0x1100, 0x1161, 0x11A8, 0x11C2, 0xAC00, 0xAC1C, 0xD788} {
		out = append(out, -c, c|1<<21, c|1<<31, c|1<<32, c|1<<48, c|math.MinInt, math.MaxInt-c, math.MinInt+c+1)
	}
	return out
}

func TestPairOfNumbersThatAreNoSigns(t *testing.T) {
	near := []int{0, 1, 0x41, 0x61, 0xDC, 0x1EA0, 0x301, 0x302, 0x304, 0x30A, 0x323, 0x327, 0x1100, 0x1112, 0x1161, 0x1175, 0x11A8, 0x11C2, 0xAC00, 0xD788, 0xD7A3, impl.MaxSign}
	for _, far := range farSigns() {
		for _, c := range near {
			wantNoPair(t, far, c)
			wantNoPair(t, c, far)
		}
		for _, other := range farSigns() {
			wantNoPair(t, far, other)
		}
	}
}

func TestComposeByHand(t *testing.T) {
	w := newComposeWords(t)
	for _, x := range []struct {
		why     string
		l, want []int
	}{
		{"no signs", nil, nil},
		{"no signs", []int{}, nil},
		{"a letter alone", []int{0x61}, []int{0x61}},
		{"a letter alone", []int{0x1161}, []int{0x1161}},
		{"a mark alone", []int{0x301}, []int{0x301}},
		{"a mark alone", []int{0x323}, []int{0x323}},
		{"a mark ahead of the first letter", []int{0x302, 0x61}, []int{0x302, 0x61}},
		{"marks alone", []int{0x301, 0x323, 0x327}, []int{0x327, 0x323, 0x301}},
		{"marks alone", []int{0x323, 0x302}, []int{0x323, 0x302}},
		{"marks ahead of the first letter, and one behind it", []int{0x301, 0x323, 0x61, 0x302}, []int{0x323, 0x301, 0xE2}},
		{"marks ahead of the first letter, and one behind it that has their class", []int{0x301, 0x61, 0x301}, []int{0x301, 0xE1}},
		{"a mark ahead of a Hangul sign", []int{0x301, 0x1100, 0x1161}, []int{0x301, 0xAC00}},

		{"nothing between", []int{0x61, 0x30A}, []int{0xE5}},
		{"nothing between", []int{0x3B1, 0x301}, []int{0x3AC}},
		{"nothing between, and a letter ahead", []int{0x62, 0x61, 0x30A}, []int{0x62, 0xE5}},
		{"nothing between, and a letter behind", []int{0x61, 0x30A, 0x62}, []int{0xE5, 0x62}},
		{"nothing between, twice", []int{0x61, 0x30A, 0x61, 0x30A}, []int{0xE5, 0xE5}},
		{"nothing between, and no sign of both", []int{0x62, 0x301}, []int{0x62, 0x301}},
		{"nothing between, and no sign of both", []int{0x61, 0x304}, []int{0x61, 0x304}},
		{"a lower class between", []int{0x61, 0x327, 0x301}, []int{0xE1, 0x327}},
		{"a lower class between", []int{0x75, 0x323, 0x308}, []int{0xFC, 0x323}},
		{"a lower class between", []int{0x61, 0x327, 0x323}, []int{0x1EA1, 0x327}},
		{"two lower classes between", []int{0x75, 0x327, 0x323, 0x308}, []int{0xFC, 0x327, 0x323}},
		{"two of one lower class between", []int{0x75, 0x323, 0x323, 0x308}, []int{0xFC, 0x323, 0x323}},
		{"the same class between", []int{0x61, 0x304, 0x301}, []int{0x61, 0x304, 0x301}},
		{"the same class between", []int{0x65, 0x303, 0x301}, []int{0x65, 0x303, 0x301}},
		{"the same class between", []int{0x62, 0x327, 0x327}, []int{0x62, 0x327, 0x327}},
		{"a lower class and the same class between", []int{0x61, 0x327, 0x304, 0x301}, []int{0x61, 0x327, 0x304, 0x301}},
		{"the same class between, and one mark that was taken", []int{0x61, 0x301, 0x301}, []int{0xE1, 0x301}},
		{"a higher class between: it is put behind", []int{0x61, 0x301, 0x323}, []int{0x1EA1, 0x301}},
		{"a higher class between: it is put behind", []int{0x63, 0x301, 0x327}, []int{0xE7, 0x301}},
		{"a higher class between: it is put behind", []int{0x61, 0x304, 0x323}, []int{0x1EA1, 0x304}},
		{"a letter between", []int{0x61, 0x62, 0x30A}, []int{0x61, 0x62, 0x30A}},
		{"a letter between", []int{0x61, 0x20, 0x301}, []int{0x61, 0x20, 0x301}},
		{"a letter with a mark between", []int{0x61, 0x62, 0x323, 0x302}, []int{0x61, 0x62, 0x323, 0x302}},
		{"a letter with a mark of its own between", []int{0x61, 0x65, 0x301, 0x302}, []int{0x61, 0xE9, 0x302}},

		{"the second mark makes one with that of the first", []int{0x75, 0x308, 0x304}, []int{0x1D6}},
		{"the second mark makes one with that of the first", []int{0x61, 0x302, 0x323}, []int{0x1EAD}},
		{"the second mark makes one with that of the first", []int{0x41, 0x323, 0x302}, []int{0x1EAC}},
		{"the second mark makes one, a lower class between", []int{0x75, 0x308, 0x304, 0x323}, []int{0x1D6, 0x323}},
		{"the second mark makes one, a lower class between", []int{0x61, 0x302, 0x323, 0x327}, []int{0x1EAD, 0x327}},
		{"the second mark would make one with that of the first, but the same class is between", []int{0x75, 0x308, 0x301, 0x304}, []int{0xFC, 0x301, 0x304}},
		{"the second mark would make one with that of the first, but the same class is between", []int{0x41, 0x323, 0x304, 0x302}, []int{0x1EA0, 0x304, 0x302}},
		{"the marks the other way round", []int{0x75, 0x304, 0x308}, []int{0x75, 0x304, 0x308}},
		{"the first mark makes none, the second does", []int{0x61, 0x327, 0x302}, []int{0xE2, 0x327}},
		{"the first mark makes none, the second does", []int{0x6F, 0x323, 0x303}, []int{0xF5, 0x323}},
		{"the first mark makes one, the second none", []int{0x61, 0x301, 0x302}, []int{0xE1, 0x302}},
		{"the second mark makes one with the letter, and none with that of the first", []int{0x61, 0x323, 0x301}, []int{0x1EA1, 0x301}},
		{"the second mark makes one with the letter, and none with that of the first", []int{0x63, 0x327, 0x323}, []int{0xE7, 0x323}},

		{"two Hangul signs", []int{0x1100, 0x1161}, []int{0xAC00}},
		{"three Hangul signs", []int{0x1100, 0x1161, 0x11A8}, []int{0xAC01}},
		{"a third one behind two", []int{0xAC00, 0x11A8}, []int{0xAC01}},
		{"a third one behind three", []int{0x1100, 0x1161, 0x11A8, 0x11A8}, []int{0xAC01, 0x11A8}},
		{"a third one behind three", []int{0xAC01, 0x11A8}, []int{0xAC01, 0x11A8}},
		{"a second one behind two", []int{0x1100, 0x1161, 0x1161}, []int{0xAC00, 0x1161}},
		{"a first one ahead", []int{0x1100, 0x1100, 0x1161}, []int{0x1100, 0xAC00}},
		{"a third one behind a first one", []int{0x1100, 0x11A8}, []int{0x1100, 0x11A8}},
		{"a third one behind a second one", []int{0x1161, 0x11A8}, []int{0x1161, 0x11A8}},
		{"two syllables", []int{0x1112, 0x1161, 0x11AB, 0x1100, 0x1173, 0x11AF}, []int{0xD55C, 0xAE00}},
		{"a sign beside the row", []int{0xAC00, 0x11A7}, []int{0xAC00, 0x11A7}},
		{"a sign beside the row", []int{0x1113, 0x1161}, []int{0x1113, 0x1161}},
		{"a mark between a first and a second one", []int{0x1100, 0x301, 0x1161}, []int{0x1100, 0x301, 0x1161}},
		{"a mark between a second and a third one", []int{0x1100, 0x1161, 0x323, 0x11A8}, []int{0xAC00, 0x323, 0x11A8}},
		{"a mark behind a syllable", []int{0x1100, 0x1161, 0x11A8, 0x301}, []int{0xAC01, 0x301}},
		{"a letter between", []int{0x1100, 0x61, 0x1161}, []int{0x1100, 0x61, 0x1161}},
		{"a letter that Pair does not put to it", []int{0x61, 0x62}, []int{0x61, 0x62}},
		{"a letter that Pair does not put to it", []int{0x61, 0x1161}, []int{0x61, 0x1161}},

		{"one sign", []int{0x2126}, []int{0x3A9}},
		{"one sign, and a mark", []int{0x2126, 0x301}, []int{0x38F}},
		{"two steps", []int{0x212B}, []int{0xC5}},
		{"two steps, and a mark of the same class", []int{0x212B, 0x302}, []int{0xC5, 0x302}},
		{"two steps, and a mark of a lower class", []int{0x212B, 0x323}, []int{0x1EA0, 0x30A}},
		{"two steps", []int{0x1D5}, []int{0x1D5}},
		{"two steps", []int{0x1EAC}, []int{0x1EAC}},
		{"two steps, and a mark of a lower class", []int{0x1EAD, 0x327}, []int{0x1EAD, 0x327}},
		{"three steps behind one another", []int{0x212B, 0x1EAD, 0x1D6}, []int{0xC5, 0x1EAD, 0x1D6}},

		{"together already", []int{0xE5}, []int{0xE5}},
		{"together already", []int{0xAC00}, []int{0xAC00}},
		{"together already", []int{0xD7A3}, []int{0xD7A3}},
		{"together already, another way", []int{0xE2, 0x323}, []int{0x1EAD}},
		{"together already, and a mark of a lower class", []int{0xE1, 0x323}, []int{0x1EA1, 0x301}},
		{"together already, one step", []int{0x1EA1, 0x302}, []int{0x1EAD}},
		{"together already, one step", []int{0xDC, 0x304}, []int{0x1D5}},

		{"no sign", []int{-1}, []int{-1}},
		{"no sign, and a mark", []int{-1, 0x301}, []int{-1, 0x301}},
		{"no sign ahead", []int{math.MinInt, 0x61, 0x30A}, []int{math.MinInt, 0xE5}},
		{"no sign between", []int{0x61, -1, 0x30A}, []int{0x61, -1, 0x30A}},
		{"no sign between", []int{0x1100, math.MaxInt, 0x1161}, []int{0x1100, math.MaxInt, 0x1161}},
		{"no sign behind", []int{0x61, 0x30A, 0x110000}, []int{0xE5, 0x110000}},
		{"sign 0", []int{0x3A9, 0, 0x301}, []int{0x3A9, 0, 0x301}},
	} {
		if got := impl.Compose(x.l); !slices.Equal(got, x.want) {
			t.Errorf("%s: Compose(%x) = %x, not %x", x.why, x.l, got, x.want)
		}
		wantCompose(t, x.l, x.want...)
		w.wantCompose(t, x.l)
	}
}

func TestComposeOfEachSign(t *testing.T) {
	for c := -3000; c <= impl.MaxSign+3000; c++ {
		want := c
		switch c {
		case 0x2126:
			want = 0x3A9
		case 0x212B:
			want = 0xC5
		}
		if got := impl.Compose([]int{c}); len(got) != 1 || got[0] != want {
			t.Errorf("Compose of %x = %x", c, got)
		}
	}
	for _, c := range farSigns() {
		wantCompose(t, []int{c}, c)
		wantCompose(t, []int{0x61, c, 0x30A, 0x61, 0x30A}, 0x61, c, 0x30A, 0xE5)
		wantCompose(t, []int{c, 0x301, 0x323, c, 0x1161, 0x11A8}, c, 0x323, 0x301, c, 0x1161, 0x11A8)
	}
}

func TestComposeOfEachKnownSignWithMarks(t *testing.T) {
	w := newComposeWords(t)
	for c := range w.known {
		if c >= impl.FirstHangul && c%13 > 0 {
			continue // syllables are many, and made by one rule
		}
		for _, l := range [][]int{
			{c, 0x301}, {c, 0x302, 0x323}, {c, 0x327, 0x308, 0x304}, {0x302, c, 0x302}, {c, c, 0x30A}, {0x61, c, 0x301}, {0x61, 0x30A, c}, {c, 0x11A8}, {0x1100, c}, {c, 0x1161, 0x11C2},
		} {
			w.wantCompose(t, l)
		}
	}
}

func TestComposeRows(t *testing.T) {
	w := newComposeWords(t)
	ask := func(l []int) { w.wantCompose(t, l) }
	rowsOf([]int{0x61, 0x62, 0x302, 0x304, 0x323, 0x327, 0x1100, 0x1161, 0x11A8, 0xAC00, 0xAC01, 0x212B, 0x1EAD}, 4, ask)
	rowsOf([]int{0x41, 0x75, 0x63, 0x308, 0x304, 0x323, 0x327, 0xDC, 0x2126, 0x301, -1}, 4, ask)
	rowsOf([]int{0x1100, 0x1161, 0x11A8, 0x301}, 6, ask)
	rowsOf([]int{0x61, 0x302, 0x304, 0x323}, 6, ask)
}

func TestComposeOfLettersWithEachMarks(t *testing.T) {
	w := newComposeWords(t)
	var marks []int
	for _, m := range markClasses {
		marks = append(marks, m[0])
	}
	for _, letter := range []int{0x41, 0x75, 0x63, 0x62, 0x3A9, 0x1EA1, 0xFC, 0xAC00} {
		rowsOf(marks, 3, func(l []int) { w.wantCompose(t, slices.Concat([]int{letter}, l)) })
	}
}

func TestComposeForLong(t *testing.T) {
	w := newComposeWords(t)
	s := steady{13}
	from := []int{0x41, 0x61, 0x75, 0x62, 0xC5, 0xFC, 0x1EA0, 0x1EAD, 0x212B, 0x2126, 0x3A9, 0x301, 0x302, 0x304, 0x308, 0x30A, 0x323, 0x327, 0x1100, 0x1112, 0x1161, 0x1175, 0x11A8, 0x11C2, 0xAC00, 0xAC01, 0x20, -1}
	shorter := 0
	for range 4000 {
		var l []int
		for range s.below(24) {
			l = append(l, from[s.below(len(from))])
		}
		w.wantCompose(t, l)
		if len(impl.Compose(l)) < len(impl.Apart(l)) {
			shorter++
		}
	}
	if shorter < 2000 {
		t.Errorf("only %d rows were put together", shorter)
	}
}

// A name that is put together is the same name.
func TestComposeOfNames(t *testing.T) {
	for _, row := range likeNames {
		var first string
		for i, name := range row {
			signs, _ := impl.Decode(name)
			short := impl.Encode(impl.Compose(signs))
			if !impl.Alike(name, short) {
				t.Errorf("%q is put together to %q, another name", name, short)
			}
			key := impl.Encode(impl.Compose(impl.Fold(impl.Apart(signs))))
			if i == 0 {
				first = key
			}
			if key != first {
				t.Errorf("%q and %q are alike, and folded and put together %q and %q", row[0], name, first, key)
			}
		}
	}
}

func TestComposeOfLongRows(t *testing.T) {
	const count = 100000
	for _, x := range []struct{ l, want []int }{
		{slices.Repeat([]int{0x61, 0x302, 0x323}, count), slices.Repeat([]int{0x1EAD}, count)},
		{slices.Repeat([]int{0x1100, 0x1161, 0x11A8}, count), slices.Repeat([]int{0xAC01}, count)},
		{slices.Repeat([]int{0x212B}, count), slices.Repeat([]int{0xC5}, count)},
		{slices.Repeat([]int{0x327, 0x323}, count), slices.Concat(slices.Repeat([]int{0x327}, count), slices.Repeat([]int{0x323}, count))},
		{
			slices.Concat([]int{0x61}, slices.Repeat([]int{0x302, 0x323, 0x327}, count)),
			slices.Concat([]int{0x1EAD}, slices.Repeat([]int{0x327}, count), slices.Repeat([]int{0x323}, count-1), slices.Repeat([]int{0x302}, count-1)),
		},
	} {
		if got := impl.Compose(x.l); !slices.Equal(got, x.want) {
			t.Errorf("a long row of %x is put together to %d signs, %x and on", x.l[:4], len(got), got[:min(4, len(got))])
		}
	}
}

func TestUnitsByHand(t *testing.T) {
	wantUnits(t, nil)
	wantUnits(t, []int{})
	wantUnits(t, []int{0xE5, 0xE5}[:0])
	wantUnits(t, []int{0x61}, []int{0x61})
	wantUnits(t, []int{0}, []int{0})
	wantUnits(t, []int{-1}, []int{-1})
	wantUnits(t, []int{0x301}, []int{0x301})
	wantUnits(t, []int{0x323, 0x301}, []int{0x323, 0x301})
	wantUnits(t, []int{0x301, 0x323, 0x301}, []int{0x301, 0x323, 0x301}) // nothing is put in order
	wantUnits(t, []int{0x301, 0x61}, []int{0x301}, []int{0x61})
	wantUnits(t, []int{0x301, 0x327, 0x61, 0x302, 0x62}, []int{0x301, 0x327}, []int{0x61, 0x302}, []int{0x62})
	wantUnits(t, []int{0x61, 0x62, 0x63}, []int{0x61}, []int{0x62}, []int{0x63})
	wantUnits(t, []int{0x61, 0x61}, []int{0x61}, []int{0x61})
	wantUnits(t, []int{0x61, 0x323, 0x302, 0x62, 0x63, 0x327}, []int{0x61, 0x323, 0x302}, []int{0x62}, []int{0x63, 0x327})
	wantUnits(t, []int{0x61, 0x302, 0x323}, []int{0x61, 0x302, 0x323})
	wantUnits(t, []int{0x212B, 0x1EAD, 0x301}, []int{0x212B}, []int{0x1EAD, 0x301}) // nothing is taken apart
	wantUnits(t, []int{0x1100, 0x1161, 0x11A8}, []int{0x1100}, []int{0x1161}, []int{0x11A8})
	wantUnits(t, []int{0xAC00, 0x301, 0x11A8}, []int{0xAC00, 0x301}, []int{0x11A8})
	wantUnits(t, []int{-1, 0x301, math.MaxInt, math.MinInt, 0x323}, []int{-1, 0x301}, []int{math.MaxInt}, []int{math.MinInt, 0x323})
}

func TestUnitsOfEachSign(t *testing.T) {
	for c := -3000; c <= impl.MaxSign+3000; c++ {
		rows := 3
		if classByList(c) > 0 {
			rows = 2
		}
		got := impl.Units([]int{0x61, c, 0x62})
		if len(got) != rows || len(got[0]) != 4-rows || !slices.Equal(slices.Concat(got...), []int{0x61, c, 0x62}) {
			t.Errorf("Units with %x: %x", c, got)
		}
	}
	for _, c := range farSigns() {
		wantUnits(t, []int{c}, []int{c})
		wantUnits(t, []int{0x61, 0x301, c, 0x301, c}, []int{0x61, 0x301}, []int{c, 0x301}, []int{c})
	}
}

func TestUnitsOfRows(t *testing.T) {
	ask := func(l []int) { wantUnits(t, l, unitsByWords(l)...) }
	rowsOf([]int{0x61, 0xE5, 0x301, 0x323, 0x327, 0x1100, 0xAC01, -1}, 4, ask)
	rowsOf([]int{0x61, 0x302, 0x323}, 8, ask)
}

func TestUnitsOfLongRows(t *testing.T) {
	const count = 200000
	letters := impl.Units(slices.Repeat([]int{0x61}, count))
	if len(letters) != count {
		t.Errorf("%d letters have %d units", count, len(letters))
	}
	marks := slices.Concat([]int{0x61}, slices.Repeat([]int{0x301, 0x323}, count), []int{0x62})
	got := impl.Units(marks)
	if len(got) != 2 || !slices.Equal(got[0], marks[:len(marks)-1]) || !slices.Equal(got[1], []int{0x62}) {
		t.Errorf("many marks behind a letter have %d units", len(got))
	}
}

// A row of Units grows into no other row, and not into what was given.
func TestUnitsGrowApart(t *testing.T) {
	l := []int{0x61, 0x301, 0x62, 0x63, 0x323, 0x302, 0x64}
	got := impl.Units(l)
	for i := range got {
		_ = append(got[i], -7, -7, -7)
	}
	if !slices.EqualFunc(got, [][]int{{0x61, 0x301}, {0x62}, {0x63, 0x323, 0x302}, {0x64}}, slices.Equal) {
		t.Errorf("a row grew into another one: %x", got)
	}
	if !slices.Equal(l, []int{0x61, 0x301, 0x62, 0x63, 0x323, 0x302, 0x64}) {
		t.Errorf("a row grew into what was given: %x", l)
	}
	other := impl.Units(l)
	for _, row := range got {
		spoilSigns(row)
	}
	if !slices.Equal(slices.Concat(other...), l) {
		t.Errorf("two answers of Units share memory: %x", other)
	}
}
