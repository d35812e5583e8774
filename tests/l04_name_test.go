package tests

import (
	"slices"
	"strings"
	"testing"

	"loop.example/g00773/impl"
)

// markClasses are the marks and their classes, in the document's order.
var markClasses = [][2]int{
	{0x300, 230}, {0x301, 230}, {0x302, 230}, {0x303, 230}, {0x304, 230}, {0x308, 230}, {0x30A, 230}, {0x323, 220}, {0x327, 202},
}

func classByList(c int) int {
	for _, m := range markClasses {
		if m[0] == c {
			return m[1]
		}
	}
	return 0
}

// nameWords answers in the document's words, from the tables of the tests alone.
type nameWords struct {
	known map[int]bool
	parts map[int][]int
	folds map[int][]int
}

func newNameWords(t *testing.T) nameWords {
	return nameWords{knownByList(t), partsByTable(t), foldsByList()}
}

func (w nameWords) partsOf(c int) []int {
	if c < 0xAC00 || c > 0xD7A3 {
		return w.parts[c]
	}
	n := c - 0xAC00
	out := []int{0x1100 + n/588, 0x1161 + n%588/28}
	if n%28 > 0 {
		out = append(out, 0x11A7+n%28)
	}
	return out
}

// apart takes all signs one step apart until none has parts, then changes two side by side until none are to be changed.
func (w nameWords) apart(l []int) []int {
	for more := true; more; {
		more = false
		var next []int
		for _, c := range l {
			if parts := w.partsOf(c); len(parts) > 0 {
				next = append(next, parts...)
				more = true
			} else {
				next = append(next, c)
			}
		}
		l = next
	}
	for more := true; more; {
		more = false
		for i := 1; i < len(l); i++ {
			if second := classByList(l[i]); second > 0 && second < classByList(l[i-1]) {
				l[i-1], l[i] = l[i], l[i-1]
				more = true
			}
		}
	}
	return l
}

func (w nameWords) fold(l []int) []int {
	var out []int
	for _, c := range l {
		if small := w.folds[c]; small != nil {
			out = append(out, small...)
		} else {
			out = append(out, c)
		}
	}
	return out
}

func (w nameWords) key(s string) (string, bool) {
	signs, ok := signsBySteps(s)
	if !ok || len(s) < 1 || len(s) > 24 || s == "." || s == ".." {
		return "", false
	}
	for _, c := range signs {
		if !w.known[c] {
			return "", false
		}
	}
	return signText(w.apart(w.fold(w.apart(signs)))...), true
}

func signText(l ...int) string {
	out := ""
	for _, c := range l {
		out += signBytes(c)
	}
	return out
}

// rowsOf hands over each row of at most length of these signs; the row is the next one's, too.
func rowsOf(signs []int, length int, do func([]int)) {
	var grow func(row []int)
	grow = func(row []int) {
		do(row)
		if len(row) == length {
			return
		}
		for _, c := range signs {
			grow(append(row, c))
		}
	}
	grow(make([]int, 0, length))
}

func wantApart(t *testing.T, l []int, want ...int) {
	t.Helper()
	if got := impl.Apart(l); !slices.Equal(got, want) {
		t.Errorf("Apart(%x) = %x, want %x", l, got, want)
	}
}

func wantFolded(t *testing.T, l []int, want ...int) {
	t.Helper()
	if got := impl.Fold(l); !slices.Equal(got, want) {
		t.Errorf("Fold(%x) = %x, want %x", l, got, want)
	}
}

func wantName(t *testing.T, s string, want bool) {
	t.Helper()
	if got := impl.NameOk(s); got != want {
		t.Errorf("NameOk(%q) = %v", s, got)
	}
}

// wantNoName asks all that stands on NameOk.
func wantNoName(t *testing.T, s string) {
	t.Helper()
	wantName(t, s, false)
	if key, ok := impl.KeyOf(s); ok || key != "" {
		t.Errorf("KeyOf(%q) = %q, %v, want none", s, key, ok)
	}
	if got := impl.HashOf(s); got != -1 {
		t.Errorf("HashOf(%q) = %d, want -1", s, got)
	}
	for _, other := range []string{s, "a", "...", ""} {
		if impl.Alike(s, other) || impl.Alike(other, s) {
			t.Errorf("Alike of %q, which is no name, and %q", s, other)
		}
	}
}

func wantKey(t *testing.T, s, want string) {
	t.Helper()
	if got, ok := impl.KeyOf(s); !ok || got != want {
		t.Errorf("KeyOf(%q) = %q, %v, want %q", s, got, ok, want)
	}
}

// wantAlike asks both ways, and the hash where they are alike.
func wantAlike(t *testing.T, a, b string, want bool) {
	t.Helper()
	if impl.Alike(a, b) != want || impl.Alike(b, a) != want {
		t.Errorf("Alike(%q, %q) = %v, and the other way %v, want %v", a, b, impl.Alike(a, b), impl.Alike(b, a), want)
	}
	if want && impl.HashOf(a) != impl.HashOf(b) {
		t.Errorf("%q and %q are alike, with hashes %d and %d", a, b, impl.HashOf(a), impl.HashOf(b))
	}
}

func TestNameConstants(t *testing.T) {
	if impl.MaxName != 24 || impl.HashMod != 16 {
		t.Error(impl.MaxName, impl.HashMod)
	}
}

func TestApartOfOneSign(t *testing.T) {
	for _, x := range []struct {
		c    int
		want []int
	}{
		{0xC5, []int{0x41, 0x30A}},
		{0xE7, []int{0x63, 0x327}},
		{0xFF, []int{0x79, 0x308}},
		{0x386, []int{0x391, 0x301}},
		{0x3CE, []int{0x3C9, 0x301}},
		{0x1EA0, []int{0x41, 0x323}},
		{0x2126, []int{0x3A9}},
		{0x212B, []int{0x41, 0x30A}}, // twice apart from here on
		{0x1D5, []int{0x55, 0x308, 0x304}},
		{0x1D6, []int{0x75, 0x308, 0x304}},
		{0x1EAC, []int{0x41, 0x323, 0x302}},
		{0x1EAD, []int{0x61, 0x323, 0x302}},
		{0xAC00, []int{0x1100, 0x1161}},
		{0xAC01, []int{0x1100, 0x1161, 0x11A8}},
		{0xD7A3, []int{0x1112, 0x1175, 0x11C2}},
		{0x61, []int{0x61}}, // no parts from here on
		{0xC6, []int{0xC6}},
		{0xDF, []int{0xDF}},
		{0x301, []int{0x301}},
		{0x1100, []int{0x1100}},
		{0xABFF, []int{0xABFF}},
		{0xD7A4, []int{0xD7A4}},
		{0, []int{0}},
		{-1, []int{-1}},
		{0x110000, []int{0x110000}},
	} {
		wantApart(t, []int{x.c}, x.want...)
	}
}

func TestApartOfEachSign(t *testing.T) {
	w := newNameWords(t)
	for c := -3000; c <= impl.MaxSign+3000; c++ {
		wantApart(t, []int{c}, w.apart([]int{c})...)
	}
	for _, c := range farNumbers {
		wantApart(t, []int{c}, c)
		wantApart(t, []int{0xC5, c, 0x302, 0x323}, 0x41, 0x30A, c, 0x323, 0x302)
	}
}

func TestApartOfEachMadeSignAmongOthers(t *testing.T) {
	w := newNameWords(t)
	var all []int
	for c := range w.parts {
		all = append(all, c)
	}
	slices.Sort(all)
	wantApart(t, all, w.apart(all)...)
	for c := impl.FirstHangul; c <= impl.LastHangul; c += 29 {
		all = append(all, c)
	}
	for _, c := range all {
		for _, l := range [][]int{
			{c, c}, {0x78, c, 0x78}, {c, 0x327}, {c, 0x323}, {c, 0x301}, {c, 0x301, 0x323, 0x327}, {0x301, c}, {0x327, c, 0x327, c},
		} {
			wantApart(t, l, w.apart(l)...)
		}
	}
}

func TestApartOfNoSigns(t *testing.T) {
	wantApart(t, nil)
	wantApart(t, []int{})
	wantApart(t, []int{0xC5, 0xC5}[:0])
}

func TestApartOfRows(t *testing.T) {
	w := newNameWords(t)
	ask := func(l []int) { wantApart(t, l, w.apart(l)...) }
	rowsOf([]int{0x61, 0x301, 0x308, 0x323, 0x327, 0xC5, 0x1EAD, 0x212B, 0xAC01, -1}, 4, ask)
	rowsOf([]int{0x61, 0x301, 0x302, 0x323, 0x327}, 6, ask)
	rowsOf([]int{0x302, 0x323, 0x327}, 8, ask)
}

func TestApartOfApart(t *testing.T) {
	ask := func(l []int) {
		once := impl.Apart(l)
		wantApart(t, once, once...)
		for i, c := range once {
			if len(impl.Parts(c)) != 0 {
				t.Errorf("Apart(%x) = %x, and %x has parts", l, once, c)
			}
			if i > 0 && impl.Class(c) > 0 && impl.Class(c) < impl.Class(once[i-1]) {
				t.Errorf("Apart(%x) = %x: %x and %x are not in order", l, once, once[i-1], c)
			}
		}
	}
	rowsOf([]int{0x41, 0x30A, 0x323, 0x327, 0x1D5, 0x1EAC, 0x212B, 0x2126, 0xE7, 0xD7A3}, 4, ask)
	for c := range impl.MaxSign + 1 {
		if impl.Known(c) {
			ask([]int{c})
			ask([]int{c, 0x302, 0x327, 0x323})
		}
	}
	for _, c := range farNumbers {
		ask([]int{0x308, 0x327, c, 0x308, 0x327})
	}
}

func TestApartOrdersEachTwoMarks(t *testing.T) {
	for _, a := range markClasses {
		for _, b := range markClasses {
			first, second := a[0], b[0]
			if b[1] < a[1] {
				first, second = second, first
			}
			wantApart(t, []int{a[0], b[0]}, first, second)
			wantApart(t, []int{0x61, a[0], b[0]}, 0x61, first, second)
			wantApart(t, []int{a[0], b[0], 0x61}, first, second, 0x61)
			wantApart(t, []int{0x61, a[0], b[0], 0x62}, 0x61, first, second, 0x62)
			wantApart(t, []int{a[0], 0x61, b[0]}, a[0], 0x61, b[0])
		}
	}
}

func TestApartOrdersEachThreeMarks(t *testing.T) {
	w := newNameWords(t)
	var marks []int
	for _, m := range markClasses {
		marks = append(marks, m[0])
	}
	rowsOf(marks, 4, func(l []int) { wantApart(t, l, w.apart(l)...) })
	wantApart(t, []int{0x61, 0x302, 0x323, 0x327}, 0x61, 0x327, 0x323, 0x302)
	wantApart(t, []int{0x61, 0x323, 0x302, 0x327}, 0x61, 0x327, 0x323, 0x302)
	wantApart(t, []int{0x61, 0x327, 0x323, 0x302}, 0x61, 0x327, 0x323, 0x302)
}

func TestApartKeepsMarksOfOneClass(t *testing.T) {
	high := []int{0x30A, 0x300, 0x308, 0x301, 0x304, 0x302, 0x303}
	for turn := range high {
		row := slices.Concat(high[turn:], high[:turn])
		wantApart(t, row, row...)
		wantApart(t, slices.Concat([]int{0x61}, row, []int{0x323, 0x327}), slices.Concat([]int{0x61, 0x327, 0x323}, row)...)
	}
	wantApart(t, []int{0x301, 0x323, 0x300, 0x327, 0x301, 0x323}, 0x327, 0x323, 0x323, 0x301, 0x300, 0x301)
	wantApart(t, []int{0x61, 0x301, 0x300}, 0x61, 0x301, 0x300)
	wantApart(t, []int{0x61, 0x300, 0x301}, 0x61, 0x300, 0x301)
	wantApart(t, []int{0xE1, 0x300, 0x323}, 0x61, 0x323, 0x301, 0x300)
}

func TestApartLetterBetween(t *testing.T) {
	for _, letter := range []int{0x61, 0x20, 0x2E, 0x3B1, 0x430, 0x1100, 0, -1, 0x305, 0x110000} {
		wantApart(t, []int{0x302, letter, 0x323}, 0x302, letter, 0x323)
		wantApart(t, []int{0x302, 0x323, letter, 0x302, 0x327}, 0x323, 0x302, letter, 0x327, 0x302)
		wantApart(t, []int{letter, 0x302, letter, 0x323, letter}, letter, 0x302, letter, 0x323, letter)
	}
	wantApart(t, []int{0x302, 0xE7}, 0x302, 0x63, 0x327)
	wantApart(t, []int{0x302, 0xAC00, 0x323}, 0x302, 0x1100, 0x1161, 0x323)
	wantApart(t, []int{0x302, 0x2126, 0x323}, 0x302, 0x3A9, 0x323)
}

func TestApartOfLongRows(t *testing.T) {
	const third = 100000
	var marks, high []int
	for i := range third {
		mark := []int{0x300, 0x30A, 0x301}[i%3]
		marks = append(marks, mark, 0x323, 0x327)
		high = append(high, mark)
	}
	ordered := slices.Concat(slices.Repeat([]int{0x327}, third), slices.Repeat([]int{0x323}, third), high)
	for _, ends := range [][2][]int{{}, {{0x61}, {}}, {{}, {0x61}}, {{0x61}, {0x62, 0x301}}} {
		if got := impl.Apart(slices.Concat(ends[0], marks, ends[1])); !slices.Equal(got, slices.Concat(ends[0], ordered, ends[1])) {
			t.Errorf("many marks between %x and %x are not in order", ends[0], ends[1])
		}
	}
	if got := impl.Apart(slices.Repeat([]int{0x1EAD, 0x327}, third)); !slices.Equal(got, slices.Repeat([]int{0x61, 0x327, 0x323, 0x302}, third)) {
		t.Errorf("a long row is taken apart to %d signs", len(got))
	}
}

func TestNameListsAreLeftAndNew(t *testing.T) {
	for name, f := range map[string]func([]int) []int{"Apart": impl.Apart, "Fold": impl.Fold} {
		for _, l := range [][]int{
			{0x61, 0x62}, {0x61, 0x302, 0x323}, {0x1EAD, 0xAC01}, {0x41, 0xDF, 0x3C2}, {0x302, 0x301, 0x327}, {0x212B},
		} {
			room := append(slices.Clone(l), -7, -7, -7, -7, -7, -7, -7, -7)
			given := room[:len(l)]
			first := f(given)
			want := slices.Clone(first)
			second := f(given)
			for i := range first {
				first[i] = -9
			}
			_ = append(first, -9)
			if !slices.Equal(room, append(slices.Clone(l), -7, -7, -7, -7, -7, -7, -7, -7)) {
				t.Errorf("%s wrote into what it was given, %x: %x", name, l, room)
			}
			if third := f(given); !slices.Equal(second, want) || !slices.Equal(third, want) {
				t.Errorf("%s of %x: %x, then %x, then %x", name, l, want, second, third)
			}
		}
	}
}

func TestFoldOfOneSign(t *testing.T) {
	w := newNameWords(t)
	for c := -3000; c <= impl.MaxSign+3000; c++ {
		wantFolded(t, []int{c}, w.fold([]int{c})...)
	}
	for _, c := range farNumbers {
		wantFolded(t, []int{c}, c)
		wantFolded(t, []int{0x41, c, 0xDF}, 0x61, c, 0x73, 0x73)
	}
}

func TestFoldOfRows(t *testing.T) {
	wantFolded(t, nil)
	wantFolded(t, []int{})
	for _, x := range [][2][]int{
		{{0x41}, {0x61}}, {{0x5A}, {0x7A}}, {{0x5B}, {0x5B}}, {{0x40}, {0x40}},
		{{0xC6}, {0xE6}}, {{0xD0}, {0xF0}}, {{0xD8}, {0xF8}}, {{0xDE}, {0xFE}}, {{0xDF}, {0x73, 0x73}},
		{{0x391}, {0x3B1}}, {{0x3A1}, {0x3C1}}, {{0x3A2}, {0x3A2}}, {{0x3A3}, {0x3C3}}, {{0x3A9}, {0x3C9}}, {{0x3C2}, {0x3C3}},
		{{0x410}, {0x430}}, {{0x42F}, {0x44F}},
		{{0xC5}, {0xC5}}, {{0x212B}, {0x212B}}, {{0x1EAC}, {0x1EAC}}, {{0xAC01}, {0xAC01}}, {{0x302}, {0x302}}, // folded is not taken apart
		{{0x302, 0x323}, {0x302, 0x323}}, // nor put in order
	} {
		wantFolded(t, x[0], x[1]...)
		wantFolded(t, slices.Concat([]int{0x41}, x[0]), slices.Concat([]int{0x61}, x[1])...)
		wantFolded(t, slices.Concat(x[0], []int{0xDF}), slices.Concat(x[1], []int{0x73, 0x73})...)
		wantFolded(t, slices.Concat([]int{0x3C2}, x[0], x[0], []int{0x7A, 0x42F}), slices.Concat([]int{0x3C3}, x[1], x[1], []int{0x7A, 0x44F})...)
	}
	w := newNameWords(t)
	rowsOf([]int{0x41, 0x61, 0xC6, 0xDF, 0x3A3, 0x3C2, 0x410, 0xC5, -1}, 4, func(l []int) {
		wantFolded(t, l, w.fold(l)...)
		wantFolded(t, impl.Fold(l), impl.Fold(l)...)
	})
}

func TestNameOkByLength(t *testing.T) {
	for n := range 70 {
		wantName(t, strings.Repeat("a", n), 1 <= n && n <= 24)
		wantName(t, strings.Repeat("\xc3\xa5", n), 1 <= n && n <= 12) // bytes count, not signs
		wantName(t, strings.Repeat("\xea\xb0\x80", n), 1 <= n && n <= 8)
	}
	for _, s := range []string{
		"", strings.Repeat("a", 25), strings.Repeat("\xc3\xa5", 12) + "a", strings.Repeat("\xea\xb0\x81", 8) + ".", strings.Repeat("z", 1<<20),
	} {
		wantNoName(t, s)
	}
}

func TestNameOkPoints(t *testing.T) {
	wantNoName(t, ".")
	wantNoName(t, "..")
	for _, s := range []string{"...", "....", "..a", ".a", "a.", "a..", ". ", " .", ".. ", " ..", "._", "a.b", strings.Repeat(".", 24), ".\xcc\x81", "\xcc\x81", " "} {
		wantName(t, s, true)
	}
	wantNoName(t, strings.Repeat(".", 25))
	wantNoName(t, "./")
	wantNoName(t, "../")
}

func TestNameOkNotWellFormed(t *testing.T) {
	for _, kind := range notWellFormed {
		for _, bad := range kind.texts {
			for _, s := range []string{bad, "a" + bad, bad + "a", "\xc3\xa5" + bad + "b"} {
				wantNoName(t, s)
			}
		}
	}
}

func TestNameOkEachSign(t *testing.T) {
	known := knownByList(t)
	for c := range impl.MaxSign + 1 {
		s := signBytes(c) // of a half it is not well formed
		if c != 0x2E {
			wantName(t, s, known[c])
		}
		wantName(t, "a"+s, known[c])
		wantName(t, s+"a\xcc\x81", known[c])
		wantName(t, "\xc3\xa5"+s+"B", known[c])
	}
	for _, c := range []int{0, 0x0A, 0x1F, 0x2F, 0x7F, 0x80, 0xA0, 0x100, 0x305, 0x3A2, 0x450, 0x11A7, 0x1EA2, 0xABFF, 0xD7A4, 0xE000, 0xFFFD, 0x10FFFF} {
		for _, s := range []string{signText(c), signText(0x61, c), signText(c, 0x61), signText(0xC5, c, 0xAC00), signText(0x61, 0x62, 0x63, 0x301, c)} {
			wantNoName(t, s)
		}
	}
}

// likeNames has in each row spellings of one name, and no two rows are alike.
var likeNames = [][]string{
	{"a", "A"},
	{"b", "B"},
	{"file", "FILE", "File", "fILe"},
	{"file.", "FILE."},
	{"file ", "FILE "},
	{"...", "..."},
	{"\xc3\xa5", "\xc3\x85", "a\xcc\x8a", "A\xcc\x8a", "\xe2\x84\xab"},
	{"\xc3\xa4", "\xc3\x84", "a\xcc\x88", "A\xcc\x88"},
	{"\xc3\xa5\xcc\x88", "\xe2\x84\xab\xcc\x88", "A\xcc\x8a\xcc\x88"},
	{"\xc3\xa4\xcc\x8a", "a\xcc\x88\xcc\x8a", "\xc3\x84\xcc\x8a"}, // one class: the order tells them apart
	{"\xe1\xba\xad", "\xe1\xba\xac", "a\xcc\x82\xcc\xa3", "A\xcc\xa3\xcc\x82", "\xc3\xa2\xcc\xa3", "\xc3\x82\xcc\xa3", "\xe1\xba\xa1\xcc\x82", "\xe1\xba\xa0\xcc\x82"},
	{"\xcc\x82a\xcc\xa3"},
	{"a\xcc\x82b\xcc\xa3", "A\xcc\x82B\xcc\xa3", "\xc3\x82b\xcc\xa3"},
	{"a\xcc\xa3b\xcc\x82", "\xe1\xba\xa0B\xcc\x82"},
	{"\xc7\x96", "\xc7\x95", "\xc3\xbc\xcc\x84", "\xc3\x9c\xcc\x84", "u\xcc\x88\xcc\x84", "U\xcc\x88\xcc\x84"},
	{"u\xcc\x84\xcc\x88", "U\xcc\x84\xcc\x88"},
	{"\xc3\xa7\xcc\xa3\xcc\x81", "\xc3\x87\xcc\x81\xcc\xa3", "c\xcc\x81\xcc\xa3\xcc\xa7", "C\xcc\xa7\xcc\xa3\xcc\x81", "c\xcc\xa3\xcc\x81\xcc\xa7"},
	{"ss", "\xc3\x9f", "sS", "Ss", "SS"},
	{"s", "S"},
	{"sss", "\xc3\x9fs", "S\xc3\x9f"},
	{"ssss", "\xc3\x9f\xc3\x9f", "s\xc3\x9fS"},
	{"stra\xc3\x9fe", "STRASSE", "Strasse", "STRA\xc3\x9fE"},
	{"\xcf\x82", "\xcf\x83", "\xce\xa3"},
	{"\xcf\x89", "\xce\xa9", "\xe2\x84\xa6"},
	{"\xcf\x8e", "\xce\x8f", "\xe2\x84\xa6\xcc\x81", "\xce\xa9\xcc\x81", "\xcf\x89\xcc\x81"},
	{"\xce\xac", "\xce\x86", "\xce\xb1\xcc\x81", "\xce\x91\xcc\x81"},
	{"\xce\xb1", "\xce\x91"},
	{"\xd0\xb0", "\xd0\x90"}, // the letter looks like one of the first row, and is none
	{"\xd0\xb6\xd0\xba", "\xd0\x96\xd0\x9a", "\xd0\xb6\xd0\x9a"},
	{"\xc3\xa6", "\xc3\x86"},
	{"\xc3\xb0", "\xc3\x90"},
	{"\xc3\xb8", "\xc3\x98"},
	{"\xc3\xbe", "\xc3\x9e"},
	{"ae", "AE"},
	{"\xea\xb0\x81", "\xe1\x84\x80\xe1\x85\xa1\xe1\x86\xa8"},
	{"\xea\xb0\x80", "\xe1\x84\x80\xe1\x85\xa1"},
	{"\xe1\x86\xa8"},
	{"\xed\x95\x9c\xea\xb8\x80", "\xe1\x84\x92\xe1\x85\xa1\xe1\x86\xab\xea\xb8\x80"},
	{"\xcc\x81", "\xcc\x81"},
	{"\xcc\x80", "\xcc\x80"},
	{"\xcc\x80\xcc\x81"},
	{"\xcc\x81\xcc\x80"},
	{"\xcc\xa7\xcc\xa3", "\xcc\xa3\xcc\xa7"},
	{"\xc3\xbf", "y\xcc\x88", "Y\xcc\x88"},
}

// badNames are no names, each for another reason.
var badNames = []string{"", ".", "..", "a/b", "/", "\x00", "a\n", "\x7f", "\xff", "a\xcc", "\xed\xa0\x80", "\xc1\xa1", "\xc4\x80", "\xe1\xba\xa2", "abcdefghijklmnopqrstuvwxy"}

func TestKeyOfBytes(t *testing.T) {
	for _, x := range [][2]string{
		{"a", "a"}, {"A", "a"}, {"FILE.Txt", "file.txt"}, {"0 1!~", "0 1!~"},
		{"\xc3\x85", "a\xcc\x8a"}, {"\xe2\x84\xab", "a\xcc\x8a"}, {"A\xcc\x8a", "a\xcc\x8a"},
		{"\xe1\xba\xac", "a\xcc\xa3\xcc\x82"}, {"A\xcc\x82\xcc\xa3", "a\xcc\xa3\xcc\x82"}, {"\xc7\x95", "u\xcc\x88\xcc\x84"},
		{"\xc3\x9f", "ss"}, {"\xc3\x86", "\xc3\xa6"}, {"\xce\xa3\xcf\x82\xcf\x83", "\xcf\x83\xcf\x83\xcf\x83"}, {"\xe2\x84\xa6", "\xcf\x89"}, {"\xce\x8f", "\xcf\x89\xcc\x81"},
		{"\xd0\x9f\xd1\x80", "\xd0\xbf\xd1\x80"},
		{"\xea\xb0\x81", "\xe1\x84\x80\xe1\x85\xa1\xe1\x86\xa8"}, {"\xea\xb0\x80", "\xe1\x84\x80\xe1\x85\xa1"},
		{"\xcc\x82a\xcc\xa3", "\xcc\x82a\xcc\xa3"}, {"x\xcc\x81\xcc\xa3\xcc\x80\xcc\xa7", "x\xcc\xa7\xcc\xa3\xcc\x81\xcc\x80"},
		{strings.Repeat("\xc3\x9f", 12), strings.Repeat("ss", 12)},
		{strings.Repeat("\xc3\x85", 12), strings.Repeat("a\xcc\x8a", 12)}, // a key may be longer than a name
		{strings.Repeat("\xed\x9e\xa3", 8), strings.Repeat("\xe1\x84\x92\xe1\x85\xb5\xe1\x87\x82", 8)},
	} {
		wantKey(t, x[0], x[1])
	}
	for _, s := range badNames {
		wantNoName(t, s)
	}
}

func TestKeyOfEachKnownSign(t *testing.T) {
	w := newNameWords(t)
	for c := range w.known {
		sign := signBytes(c)
		for _, s := range []string{sign, "A" + sign, sign + "\xcc\x82\xcc\xa7", sign + sign, "\xcc\x81" + sign + "\xcc\xa3"} {
			if want, ok := w.key(s); ok {
				wantKey(t, s, want)
			} else {
				wantNoName(t, s)
			}
		}
	}
}

func TestKeyOfRows(t *testing.T) {
	w := newNameWords(t)
	rowsOf([]int{0x2E, 0x41, 0x61, 0xC5, 0x212B, 0x30A, 0x323, 0x327, 0xDF, 0x2F}, 4, func(l []int) {
		s := signText(l...)
		if want, ok := w.key(s); ok {
			wantKey(t, s, want)
		} else if got, ok := impl.KeyOf(s); ok || got != "" {
			t.Errorf("KeyOf(%q) = %q, %v, want none", s, got, ok)
		}
	})
}

func TestAlikeRows(t *testing.T) {
	for i, row := range likeNames {
		for j, other := range likeNames {
			for _, a := range row {
				for _, b := range other {
					wantAlike(t, a, b, i == j)
				}
			}
		}
	}
}

func TestAlikeBadNames(t *testing.T) {
	for _, bad := range badNames {
		wantNoName(t, bad)
		for _, row := range likeNames {
			wantAlike(t, bad, row[0], false)
		}
		for _, other := range badNames {
			wantAlike(t, bad, other, false)
		}
	}
	wantAlike(t, strings.Repeat("a", 25), strings.Repeat("A", 25), false)
	wantAlike(t, strings.Repeat("a", 24), strings.Repeat("A", 24), true)
	wantAlike(t, "a/b", "A/B", false)
}

func TestAlikeOneChange(t *testing.T) {
	name := "Na\xcc\x88me \xc3\x85\xcf\x82\xea\xb0\x81"
	signs, _ := signsBySteps(name)
	w := newNameWords(t)
	key, _ := w.key(name)
	for at := range signs {
		for _, c := range []int{0x20, 0x41, 0x6E, 0x7A, 0x308, 0x30A, 0x323, 0xC4, 0xE5, 0x3A3, 0x3B1, 0x410, 0xAC00, 0xAC02} {
			changed := slices.Clone(signs)
			changed[at] = c
			less := slices.Delete(slices.Clone(signs), at, at+1)
			more := slices.Insert(slices.Clone(signs), at, c)
			for _, l := range [][]int{changed, less, more} {
				other := signText(l...)
				otherKey, ok := w.key(other)
				wantAlike(t, name, other, ok && otherKey == key)
			}
		}
	}
}

func TestAlikeOnFromOneToTheNext(t *testing.T) {
	var names []string
	for _, row := range likeNames[:20] {
		names = append(names, row...)
	}
	names = append(names, badNames[:5]...)
	for _, a := range names {
		if impl.Alike(a, a) != impl.NameOk(a) {
			t.Errorf("Alike(%q, itself) = %v", a, impl.Alike(a, a))
		}
		for _, b := range names {
			alike := impl.Alike(a, b)
			if alike != impl.Alike(b, a) {
				t.Errorf("Alike of %q and %q is not so both ways", a, b)
			}
			if !alike {
				continue
			}
			for _, c := range names {
				if impl.Alike(b, c) != impl.Alike(a, c) {
					t.Errorf("%q is alike %q, but not on to %q", a, b, c)
				}
			}
		}
	}
}

// wantAlikeItsForms asks of a right name what it is taken apart and folded to.
func wantAlikeItsForms(t *testing.T, name string) {
	t.Helper()
	signs, _ := signsBySteps(name)
	key, ok := impl.KeyOf(name)
	if !ok {
		t.Errorf("KeyOf(%q) = %q, %v", name, key, ok)
	}
	for _, form := range []string{
		key, impl.Encode(impl.Apart(signs)), impl.Encode(impl.Fold(signs)), impl.Encode(impl.Fold(impl.Apart(signs))), impl.Encode(impl.Apart(impl.Fold(signs))),
	} {
		if len(form) <= impl.MaxName {
			wantName(t, form, true)
			wantAlike(t, name, form, true)
			wantKey(t, form, key)
		} else {
			wantAlike(t, name, form, false)
		}
	}
}

func TestAlikeWhatItIsTakenApartTo(t *testing.T) {
	for _, row := range likeNames {
		for _, name := range row {
			wantAlikeItsForms(t, name)
		}
	}
	for c := range knownByList(t) {
		sign := signBytes(c)
		if c >= impl.FirstHangul && c%11 > 0 {
			continue // syllables are many, and made by one rule
		}
		if c != 0x2E {
			wantAlikeItsForms(t, sign)
		}
		wantAlikeItsForms(t, "A\xcc\x82"+sign+"\xcc\xa7")
		wantAlikeItsForms(t, sign+"\xcc\x82\xcc\xa3 Z")
	}
	for _, name := range []string{strings.Repeat("\xed\x9e\xa3", 8), strings.Repeat("\xc3\x85", 12), strings.Repeat("\xe2\x84\xa6", 8)} {
		wantAlikeItsForms(t, name)
	}
}

func TestHashOfNames(t *testing.T) {
	w := newNameWords(t)
	seen := map[int]bool{}
	for _, row := range likeNames {
		key, _ := w.key(row[0])
		want := crcBySteps(key) % 16
		seen[want] = true
		for _, name := range row {
			if got := impl.HashOf(name); got != want {
				t.Errorf("HashOf(%q) = %d, want %d", name, got, want)
			}
		}
	}
	for c := range w.known {
		name := "N" + signBytes(c)
		key, _ := w.key(name)
		if got := impl.HashOf(name); got < 0 || got > 15 || got != crcBySteps(key)%16 {
			t.Errorf("HashOf(%q) = %d, want %d", name, got, crcBySteps(key)%16)
		}
		seen[impl.HashOf(name)] = true
	}
	if len(seen) != 16 {
		t.Errorf("%d different hashes", len(seen))
	}
	if got := impl.HashOf("123456789"); got != 3808858755%16 {
		t.Errorf("HashOf of nine digits is %d", got)
	}
}

func TestHashOfNoNames(t *testing.T) {
	for _, s := range append([]string{"\xc3", strings.Repeat("\xc3\xa5", 13)}, badNames...) {
		if got := impl.HashOf(s); got != -1 {
			t.Errorf("HashOf(%q) = %d, want -1", s, got)
		}
	}
}
