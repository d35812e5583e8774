package tests

import (
	"math"
	"slices"
	"strconv"
	"strings"
	"testing"

	"loop.example/g00773/impl"
)

// farNumbers are no signs, and some look like one when bits are lost.
var farNumbers = []int{
	-1, -2, -0x41, -0xC0, -0x300, -0xAC00, -1 << 31, math.MinInt, math.MinInt + 0xC0,
	0x110000, 0x110001, 0x1FFFFF, 0x200000, 0x7FFFFFFF, 0x80000000, math.MaxInt,
	1<<32 + 0x41, 1<<32 + 0xC0, 1<<32 + 0x300, 1<<32 + 0xAC01, 1<<33 + 0x61, 1<<21 + 0x61, 1<<24 + 0xC5, -1<<32 + 0x41,
}

// edgeSigns stand at the edges of one, two, three and four bytes, and beside the halves.
var edgeSigns = []int{
	0, 1, 0x2F, 0x7E, 0x7F, 0x80, 0x81, 0xBF, 0xC0, 0xFF, 0x100, 0x7FE, 0x7FF, 0x800, 0x801, 0xFFF, 0x1000, 0xCFFF, 0xD000,
	0xD7A3, 0xD7FE, 0xD7FF, 0xE000, 0xE001, 0xFEFF, 0xFFFD, 0xFFFE, 0xFFFF, 0x10000, 0x10001,
	0x3FFFF, 0x40000, 0xFFFFF, 0x100000, 0x10FFFE, 0x10FFFF,
}

// noSigns are what Encode does not write.
var noSigns = append([]int{0xD800, 0xD801, 0xDBFF, 0xDC00, 0xDFFE, 0xDFFF}, farNumbers...)

// notWellFormed has one text of each kind, and those at the edges of the kind.
var notWellFormed = []struct {
	why   string
	texts []string
}{
	{"a byte that begins none", []string{
		"\x80", "\x81", "\xbf", "\x80\x80", "\xbfa", "\xf8", "\xf8\x88\x80\x80\x80", "\xfb\xbf\xbf\xbf\xbf", "\xfc\x84\x80\x80\x80\x80", "\xfe", "\xff", "\xff\xff",
	}},
	{"a byte that should go on and does not", []string{
		"\xc2a", "\xc2\x7f", "\xc2\xc0", "\xc2\xc2\x80", "\xdf\xff", "\xc3\x00",
		"\xe1\x7f\x80", "\xe1\xc0\x80", "\xe1\x80\x7f", "\xe1\x80\xc0", "\xe2\x84a", "\xe2a", "\xef\xbfa", "\xe2\x84\xc3\xa5",
		"\xf1\x7f\x80\x80", "\xf1\xc0\x80\x80", "\xf1\x80\x7f\x80", "\xf1\x80\xc0\x80", "\xf1\x80\x80\x7f", "\xf1\x80\x80\xc0", "\xf1\x80\x80a", "\xf1\x80aa",
	}},
	{"the text ends where a byte should go on", []string{
		"\xc2", "\xdf", "\xe0", "\xe1", "\xef", "\xe0\xa0", "\xe1\x80", "\xed\x9f", "\xef\xbf",
		"\xf0", "\xf1", "\xf4", "\xf0\x90", "\xf0\x90\x80", "\xf1\x80", "\xf1\x80\x80", "\xf4\x8f\xbf",
	}},
	{"two bytes where one does", []string{
		"\xc0\x80", "\xc0\xaf", "\xc0\xbf", "\xc1\x80", "\xc1\x81", "\xc1\xa1", "\xc1\xbf",
	}},
	{"three bytes where one or two do", []string{
		"\xe0\x80\x80", "\xe0\x80\xaf", "\xe0\x81\xa1", "\xe0\x81\xbf", "\xe0\x82\x80", "\xe0\x83\xa5", "\xe0\x9f\xbf", "\xe0\x9f\x80",
	}},
	{"four bytes where one, two or three do", []string{
		"\xf0\x80\x80\x80", "\xf0\x80\x80\xaf", "\xf0\x80\x81\xbf", "\xf0\x80\x82\x80", "\xf0\x80\x83\xa5", "\xf0\x80\x9f\xbf",
		"\xf0\x80\xa0\x80", "\xf0\x82\x84\xab", "\xf0\x8f\xbf\xbf", "\xf0\x8d\x9f\xbf", "\xf0\x8d\xa0\x80",
	}},
	{"a half", []string{
		"\xed\xa0\x80", "\xed\xa0\x81", "\xed\xaf\xbf", "\xed\xb0\x80", "\xed\xbf\xbe", "\xed\xbf\xbf", "\xed\xa0\x80\xed\xb0\x80",
	}},
	{"above MaxSign", []string{
		"\xf4\x90\x80\x80", "\xf4\x90\x80\x81", "\xf4\xbf\xbf\xbf", "\xf5\x80\x80\x80", "\xf7\xbf\xbf\xbf",
	}},
}

func hexNumber(t *testing.T, s string) int {
	t.Helper()
	n, err := strconv.ParseInt(s, 16, 64)
	if err != nil {
		t.Fatal(err)
	}
	return int(n)
}

// signBytes is the UTF-8 of one sign, written by its bits.
func signBytes(c int) string {
	tail := func(shift int) byte { return byte(0x80 | c>>shift&0x3F) }
	switch {
	case c < 0x80:
		return string([]byte{byte(c)})
	case c < 0x800:
		return string([]byte{byte(0xC0 | c>>6), tail(0)})
	case c < 0x10000:
		return string([]byte{byte(0xE0 | c>>12), tail(6), tail(0)})
	}
	return string([]byte{byte(0xF0 | c>>18), tail(12), tail(6), tail(0)})
}

// signsBySteps reads a text in the document's words: byte after byte, each reason by itself.
func signsBySteps(s string) ([]int, bool) {
	var out []int
	for at := 0; at < len(s); {
		b := int(s[at])
		size, c := 0, 0
		switch {
		case b < 0x80:
			size, c = 1, b
		case b>>5 == 6:
			size, c = 2, b&0x1F
		case b>>4 == 14:
			size, c = 3, b&0x0F
		case b>>3 == 30:
			size, c = 4, b&0x07
		default:
			return nil, false
		}
		if at+size > len(s) {
			return nil, false
		}
		for i := at + 1; i < at+size; i++ {
			if s[i]>>6 != 2 {
				return nil, false
			}
			c = c<<6 | int(s[i]&0x3F)
		}
		least := []int{0, 0, 0x80, 0x800, 0x10000}[size]
		if c < least || 55296 <= c && c <= 57343 || c > 1114111 {
			return nil, false
		}
		out = append(out, c)
		at += size
	}
	return out, true
}

func wantDecode(t *testing.T, s string) {
	t.Helper()
	want, wantOk := signsBySteps(s)
	got, ok := impl.Decode(s)
	if ok != wantOk || !slices.Equal(got, want) {
		t.Errorf("Decode(%q) = %x, %v, want %x, %v", s, got, ok, want, wantOk)
		return
	}
	if ok && impl.Encode(got) != s {
		t.Errorf("Decode reads %q, which Encode of %x does not make", s, got)
	}
}

func wantRefused(t *testing.T, why, s string) {
	t.Helper()
	if got, ok := impl.Decode(s); ok || len(got) != 0 {
		t.Errorf("%s: Decode(%q) = %x, %v", why, s, got, ok)
	}
}

func TestSignConstants(t *testing.T) {
	if impl.MaxSign != 0x10FFFF || impl.FirstHangul != 0xAC00 || impl.LastHangul != 0xD7A3 {
		t.Error(impl.MaxSign, impl.FirstHangul, impl.LastHangul)
	}
}

func TestEncodeBytes(t *testing.T) {
	for _, c := range []struct {
		l    []int
		want string
	}{
		{nil, ""},
		{[]int{}, ""},
		{[]int{0}, "\x00"},
		{[]int{0x61}, "a"},
		{[]int{0x7F}, "\x7f"},
		{[]int{0x80}, "\xc2\x80"},
		{[]int{0xE5}, "\xc3\xa5"},
		{[]int{0x7FF}, "\xdf\xbf"},
		{[]int{0x800}, "\xe0\xa0\x80"},
		{[]int{0x212B}, "\xe2\x84\xab"},
		{[]int{0xD7FF}, "\xed\x9f\xbf"},
		{[]int{0xE000}, "\xee\x80\x80"},
		{[]int{0xFFFD}, "\xef\xbf\xbd"},
		{[]int{0xFFFF}, "\xef\xbf\xbf"},
		{[]int{0x10000}, "\xf0\x90\x80\x80"},
		{[]int{0x1F600}, "\xf0\x9f\x98\x80"},
		{[]int{0x10FFFF}, "\xf4\x8f\xbf\xbf"},
		{[]int{0x41, 0x30A}, "A\xcc\x8a"},
		{[]int{0x1100, 0x1161, 0x11A8}, "\xe1\x84\x80\xe1\x85\xa1\xe1\x86\xa8"},
		{[]int{0x10FFFF, 0, 0x7FF, 0x800, 0x41}, "\xf4\x8f\xbf\xbf\x00\xdf\xbf\xe0\xa0\x80A"},
	} {
		if got := impl.Encode(c.l); got != c.want {
			t.Errorf("Encode(%x) = %q, want %q", c.l, got, c.want)
		}
		if got, ok := impl.Decode(c.want); !ok || !slices.Equal(got, c.l) {
			t.Errorf("Decode(%q) = %x, %v, want %x", c.want, got, ok, c.l)
		}
	}
}

func TestDecodeOfEncodeOfEachSign(t *testing.T) {
	for c := range impl.MaxSign + 1 {
		if 0xD800 <= c && c <= 0xDFFF {
			continue
		}
		want := signBytes(c)
		if got := impl.Encode([]int{c}); got != want {
			t.Fatalf("Encode of %x = %q, want %q", c, got, want)
		}
		if got, ok := impl.Decode(want); !ok || len(got) != 1 || got[0] != c {
			t.Fatalf("Decode of Encode of %x = %x, %v", c, got, ok)
		}
	}
}

func TestDecodeOfEncodeOfRows(t *testing.T) {
	wantRow := func(l []int) {
		t.Helper()
		want := ""
		for _, c := range l {
			want += signBytes(c)
		}
		if got := impl.Encode(l); got != want {
			t.Errorf("Encode(%x) = %q, want %q", l, got, want)
		}
		if got, ok := impl.Decode(want); !ok || !slices.Equal(got, l) {
			t.Errorf("Decode of Encode of %x = %x, %v", l, got, ok)
		}
	}
	wantRow(edgeSigns)
	for _, a := range edgeSigns {
		for _, b := range edgeSigns {
			wantRow([]int{a, b})
			wantRow([]int{b, a, b})
			wantRow([]int{0x61, a, 0x327, b, 0x61})
		}
	}
	var all []int
	for c := 0; c <= impl.MaxSign; c += 61 {
		if c < 0xD800 || c > 0xDFFF {
			all = append(all, c)
		}
	}
	wantRow(all)
}

func TestEncodeNoSigns(t *testing.T) {
	for _, c := range noSigns {
		for _, l := range [][]int{
			{c}, {c, c}, {c, 0x61}, {0x61, c}, {0x61, c, 0x62}, {0x212B, 0x10FFFF, c}, {c, 0, 0}, {0, c},
		} {
			if got := impl.Encode(l); got != "" {
				t.Errorf("Encode(%x) = %q, want nothing", l, got)
			}
		}
	}
	for c := 0xD800; c <= 0xDFFF; c++ {
		if got := impl.Encode([]int{0x61, c, 0x61}); got != "" {
			t.Errorf("Encode with %x = %q, want nothing", c, got)
		}
	}
}

func TestDecodeNotWellFormed(t *testing.T) {
	fine := []string{"", "a", "\x00", "\xc3\xa5", "\xe2\x84\xab", "\xf4\x8f\xbf\xbf", "ab\xc3\xa5\xe2\x84\xab\xf0\x9f\x98\x80", strings.Repeat("name", 20)}
	for _, kind := range notWellFormed {
		for _, bad := range kind.texts {
			for _, ahead := range fine {
				wantRefused(t, kind.why, ahead+bad)
				wantRefused(t, kind.why, ahead+bad+"a")
				wantRefused(t, kind.why, ahead+bad+"\xc3\xa5")
				wantRefused(t, kind.why, ahead+bad+bad)
			}
		}
	}
}

func TestDecodeEachHalf(t *testing.T) {
	for c := 0xD800; c <= 0xDFFF; c++ {
		wantRefused(t, "a half", signBytes(c))
		wantRefused(t, "a half behind a sign", "a"+signBytes(c))
	}
}

func TestDecodeMoreBytesThanNeeded(t *testing.T) {
	tail := func(c, shift int) byte { return byte(0x80 | c>>shift&0x3F) }
	for c := range 0x10000 {
		if c < 0x80 {
			wantRefused(t, "in two", string([]byte{byte(0xC0 | c>>6), tail(c, 0)}))
		}
		if c < 0x800 {
			wantRefused(t, "in three", string([]byte{0xE0, tail(c, 6), tail(c, 0)}))
		}
		wantRefused(t, "in four", string([]byte{0xF0, tail(c, 12), tail(c, 6), tail(c, 0)}))
	}
}

func TestDecodeShortTexts(t *testing.T) {
	for n := range 1 << 16 {
		wantDecode(t, string([]byte{byte(n >> 8), byte(n)}))
	}
	for lead := 0xE0; lead <= 0xFF; lead++ {
		for n := range 1 << 16 {
			wantDecode(t, string([]byte{byte(lead), byte(n >> 8), byte(n)}))
		}
	}
}

func TestDecodeEdgeBytes(t *testing.T) {
	textsOf("\x00\x41\x7f\x80\x8f\x90\x9f\xa0\xbf\xc0\xc1\xc2\xdf\xe0\xe1\xed\xee\xef\xf0\xf1\xf4\xf5\xf7\xf8\xff", 4, func(s string) { wantDecode(t, s) })
	textsOf("\x41\x80\xbf\xc2\xe2\xf1", 6, func(s string) { wantDecode(t, s) })
}

func TestDecodeCountsSigns(t *testing.T) {
	// Of two bytes there are 30 beginnings with 64 endings, and no more, beside two signs of one byte.
	two, pairs := 0, 0
	for n := range 1 << 16 {
		l, ok := impl.Decode(string([]byte{byte(n >> 8), byte(n)}))
		switch {
		case ok && len(l) == 1:
			two++
		case ok && len(l) == 2:
			pairs++
		case ok:
			t.Errorf("two bytes have %d signs", len(l))
		}
	}
	if two != 0x780 || pairs != 128*128 {
		t.Errorf("%d signs of two bytes, %d pairs of one byte", two, pairs)
	}
}

func TestDecodeMixedTexts(t *testing.T) {
	all := mixedText(4000)
	for n := range len(all) - 12 {
		wantDecode(t, all[n:n+n%12])
	}
	wantDecode(t, all)
}

func TestDecodeNoText(t *testing.T) {
	if l, ok := impl.Decode(""); !ok || len(l) != 0 {
		t.Errorf("Decode of no bytes = %x, %v", l, ok)
	}
}

func TestSignAnswersAreNew(t *testing.T) {
	given := make([]int, 3, 8)
	copy(given, []int{0x61, 0xE5, 0x212B})
	spare := given[:8]
	impl.Encode(given)
	if !slices.Equal(spare, []int{0x61, 0xE5, 0x212B, 0, 0, 0, 0, 0}) {
		t.Errorf("Encode wrote into what it was given: %x", spare)
	}
	for _, c := range []int{0x61, 0x41, 0xDF, 0x3C2, 0xE5, 0x1EAC, 0x212B, 0xAC00, 0xAC01, 0xD7A3} {
		for name, f := range map[string]func(int) []int{"Parts": impl.Parts, "FoldOf": impl.FoldOf} {
			first := f(c)
			want := slices.Clone(first)
			second := f(c)
			for i := range first {
				first[i] = -7
			}
			_ = append(first, -8)
			if third := f(c); !slices.Equal(second, want) || !slices.Equal(third, want) {
				t.Errorf("%s of %x: %x, then %x, then %x", name, c, want, second, third)
			}
		}
	}
	first, _ := impl.Decode("a\xc3\xa5")
	second, _ := impl.Decode("a\xc3\xa5")
	first[0] = -7
	if second[0] != 0x61 {
		t.Error("two answers of Decode share memory")
	}
}

// knownList is the document's list, in its order.
const knownList = "20-2E 30-7E A1-FF 300 301 302 303 304 308 30A 323 327 386 388-38A 38C 38E 38F 391-3A1 3A3-3A9 3AC-3AF 3B1-3C9 3CC-3CE " +
	"410-44F 1D5 1D6 1EA0 1EA1 1EAC 1EAD 2126 212B 1100-1112 1161-1175 11A8-11C2 AC00-D7A3"

// knownByList is true of each sign of the list.
func knownByList(t *testing.T) map[int]bool {
	out := map[int]bool{}
	for _, word := range strings.Fields(knownList) {
		from, to, ranged := strings.Cut(word, "-")
		if !ranged {
			to = from
		}
		for c := hexNumber(t, from); c <= hexNumber(t, to); c++ {
			out[c] = true
		}
	}
	return out
}

func TestKnownAtEdges(t *testing.T) {
	known := knownByList(t)
	for _, word := range strings.Fields(knownList) {
		for _, edge := range strings.Split(word, "-") {
			c := hexNumber(t, edge)
			for _, x := range []int{c - 1, c, c + 1} {
				if impl.Known(x) != known[x] {
					t.Errorf("Known(%x) = %v", x, impl.Known(x))
				}
			}
		}
	}
	for _, c := range []int{0x2F, 0x1F, 0, 0x7F, 0xA0, 0x100, 0x1D4, 0x1D7, 0x2FF, 0x305, 0x307, 0x309, 0x30B, 0x322, 0x324, 0x326, 0x328, 0x385, 0x387,
		0x38B, 0x38D, 0x390, 0x3A2, 0x3AA, 0x3AB, 0x3B0, 0x3CA, 0x3CB, 0x3CF, 0x40F, 0x450, 0x10FF, 0x1113, 0x1160, 0x1176, 0x11A7, 0x11C3,
		0x1E9F, 0x1EA2, 0x1EAB, 0x1EAE, 0x2125, 0x2127, 0x212A, 0x212C, 0xABFF, 0xD7A4, 0xD800, 0xDFFF, 0xFFFD, 0x10FFFF} {
		if impl.Known(c) {
			t.Errorf("Known(%x)", c)
		}
	}
}

func TestKnownAllSigns(t *testing.T) {
	known := knownByList(t)
	count := 0
	for c := -3000; c <= impl.MaxSign+3000; c++ {
		if impl.Known(c) != known[c] {
			t.Errorf("Known(%x) = %v", c, impl.Known(c))
		}
		if impl.Known(c) {
			count++
		}
	}
	if count != 11572 {
		t.Errorf("%d signs are known", count)
	}
	for _, c := range farNumbers {
		if impl.Known(c) {
			t.Errorf("Known(%d)", c)
		}
	}
}

// partLines are the rows of the document's table: signs, letters, mark.
var partLines = []string{
	"C0 C8 CC D2 D9 E0 E8 EC F2 F9 | A E I O U a e i o u | 300",
	"C1 C9 CD D3 DA DD E1 E9 ED F3 FA FD | A E I O U Y a e i o u y | 301",
	"C2 CA CE D4 DB E2 EA EE F4 FB | A E I O U a e i o u | 302",
	"C3 D1 D5 E3 F1 F5 | A N O a n o | 303",
	"C4 CB CF D6 DC E4 EB EF F6 FC FF | A E I O U a e i o u y | 308",
	"C5 E5 | A a | 30A",
	"C7 E7 | C c | 327",
	"386 388 389 38A 38C 38E 38F | 391 395 397 399 39F 3A5 3A9 | 301",
	"3AC 3AD 3AE 3AF 3CC 3CD 3CE | 3B1 3B5 3B7 3B9 3BF 3C5 3C9 | 301",
	"1D5 1D6 | DC FC | 304",
	"1EA0 1EA1 | A a | 323",
	"1EAC 1EAD | 1EA0 1EA1 | 302",
	"2126 | 3A9 |",
	"212B | C5 |",
}

// partsByTable leads from each sign of the table to its parts.
func partsByTable(t *testing.T) map[int][]int {
	out := map[int][]int{}
	for _, line := range partLines {
		cells := strings.Split(line, "|")
		signs, letters, mark := strings.Fields(cells[0]), strings.Fields(cells[1]), strings.TrimSpace(cells[2])
		if len(signs) != len(letters) {
			t.Fatal(line)
		}
		for i, sign := range signs {
			letter := int(letters[i][0])
			if len(letters[i]) > 1 {
				letter = hexNumber(t, letters[i])
			}
			parts := []int{letter}
			if mark != "" {
				parts = append(parts, hexNumber(t, mark))
			}
			out[hexNumber(t, sign)] = parts
		}
	}
	return out
}

func TestPartsOfTable(t *testing.T) {
	table := partsByTable(t)
	if len(table) != 75 {
		t.Fatalf("the table has %d signs", len(table))
	}
	for c, want := range table {
		got := impl.Parts(c)
		if !slices.Equal(got, want) {
			t.Errorf("Parts(%x) = %x, want %x", c, got, want)
		}
		for _, x := range append(got, c) {
			if !impl.Known(x) {
				t.Errorf("%x, made of %x, and not all of it known", c, got)
			}
		}
		if len(got) == 2 && (impl.Class(got[1]) == 0 || impl.Class(got[0]) != 0) {
			t.Errorf("%x is made of %x, no letter and mark", c, got)
		}
	}
}

func TestPartsOfAllOthers(t *testing.T) {
	table := partsByTable(t)
	for c := -3000; c <= impl.MaxSign+3000; c++ {
		if table[c] != nil || 0xAC00 <= c && c <= 0xD7A3 {
			continue
		}
		if got := impl.Parts(c); len(got) != 0 {
			t.Errorf("Parts(%x) = %x, want nothing", c, got)
		}
	}
	for _, c := range farNumbers {
		if got := impl.Parts(c); len(got) != 0 {
			t.Errorf("Parts(%d) = %x, want nothing", c, got)
		}
	}
}

func TestPartsOfSyllables(t *testing.T) {
	for _, c := range []struct {
		c    int
		want []int
	}{
		{0xAC00, []int{0x1100, 0x1161}},
		{0xAC01, []int{0x1100, 0x1161, 0x11A8}},
		{0xAC1B, []int{0x1100, 0x1161, 0x11C2}},
		{0xAC1C, []int{0x1100, 0x1162}},
		{0xAC1D, []int{0x1100, 0x1162, 0x11A8}},
		{0xAC00 + 587, []int{0x1100, 0x1175, 0x11C2}},
		{0xAC00 + 588, []int{0x1101, 0x1161}},
		{0xD55C, []int{0x1112, 0x1161, 0x11AB}},
		{0xAE00, []int{0x1100, 0x1173, 0x11AF}},
		{0xD788, []int{0x1112, 0x1175}},
		{0xD7A3, []int{0x1112, 0x1175, 0x11C2}},
		{0xABFF, nil},
		{0xD7A4, nil},
	} {
		if got := impl.Parts(c.c); !slices.Equal(got, c.want) {
			t.Errorf("Parts(%x) = %x, want %x", c.c, got, c.want)
		}
	}
}

func TestPartsOfEachSyllable(t *testing.T) {
	seen := map[[3]int]int{}
	short := 0
	for c := impl.FirstHangul; c <= impl.LastHangul; c++ {
		n := c - 0xAC00
		want := []int{0x1100 + n/588, 0x1161 + n%588/28}
		if n%28 > 0 {
			want = append(want, 0x11A7+n%28)
		}
		got := impl.Parts(c)
		if !slices.Equal(got, want) {
			t.Errorf("Parts(%x) = %x, want %x", c, got, want)
		}
		if len(got) < 2 || len(got) > 3 {
			t.Fatalf("Parts(%x) are %d", c, len(got))
		}
		key := [3]int{}
		copy(key[:], got)
		if other, ok := seen[key]; ok {
			t.Errorf("%x and %x are made of the same", c, other)
		}
		seen[key] = c
		if len(got) == 2 {
			short++
		}
		for _, part := range got {
			if !impl.Known(part) || len(impl.Parts(part)) != 0 {
				t.Errorf("%x is made of %x: known %v, made of %x", c, part, impl.Known(part), impl.Parts(part))
			}
		}
	}
	if len(seen) != 11172 || short != 19*21 {
		t.Errorf("%d syllables, %d of two parts", len(seen), short)
	}
}

func TestPartsOfKnownSignsAreKnown(t *testing.T) {
	for c := range impl.MaxSign + 1 {
		for _, part := range impl.Parts(c) {
			if !impl.Known(c) || !impl.Known(part) {
				t.Errorf("%x is made of %x: known %v, %v", c, part, impl.Known(c), impl.Known(part))
			}
		}
	}
}

func TestClassOfAllSigns(t *testing.T) {
	classes := map[int]int{0x300: 230, 0x301: 230, 0x302: 230, 0x303: 230, 0x304: 230, 0x308: 230, 0x30A: 230, 0x323: 220, 0x327: 202}
	for c := -3000; c <= impl.MaxSign+3000; c++ {
		if got := impl.Class(c); got != classes[c] {
			t.Errorf("Class(%x) = %d, want %d", c, got, classes[c])
		}
	}
	for _, c := range farNumbers {
		if got := impl.Class(c); got != 0 {
			t.Errorf("Class(%d) = %d", c, got)
		}
	}
}

// foldsByList has each sign that is not folded to itself alone.
func foldsByList() map[int][]int {
	out := map[int][]int{0xC6: {0xE6}, 0xD0: {0xF0}, 0xD8: {0xF8}, 0xDE: {0xFE}, 0xDF: {0x73, 0x73}, 0x3C2: {0x3C3}}
	for _, r := range [][2]int{{0x41, 0x5A}, {0x391, 0x3A1}, {0x3A3, 0x3A9}, {0x410, 0x42F}} {
		for c := r[0]; c <= r[1]; c++ {
			out[c] = []int{c + 32}
		}
	}
	return out
}

func wantFold(t *testing.T, c int, want ...int) {
	t.Helper()
	if got := impl.FoldOf(c); !slices.Equal(got, want) {
		t.Errorf("FoldOf(%x) = %x, want %x", c, got, want)
	}
}

func TestFoldOfAtEdges(t *testing.T) {
	for _, x := range [][2]int{
		{0x40, 0x40}, {0x41, 0x61}, {0x5A, 0x7A}, {0x5B, 0x5B}, {0x61, 0x61}, {0x7A, 0x7A},
		{0xC5, 0xC5}, {0xC6, 0xE6}, {0xC7, 0xC7}, {0xCF, 0xCF}, {0xD0, 0xF0}, {0xD1, 0xD1}, {0xD7, 0xD7}, {0xD8, 0xF8}, {0xD9, 0xD9},
		{0xDD, 0xDD}, {0xDE, 0xFE}, {0xE0, 0xE0}, {0xE6, 0xE6}, {0xF0, 0xF0}, {0xF8, 0xF8}, {0xFE, 0xFE}, {0xFF, 0xFF},
		{0x386, 0x386}, {0x390, 0x390}, {0x391, 0x3B1}, {0x3A1, 0x3C1}, {0x3A2, 0x3A2}, {0x3A3, 0x3C3}, {0x3A9, 0x3C9}, {0x3AA, 0x3AA},
		{0x3B1, 0x3B1}, {0x3C1, 0x3C1}, {0x3C2, 0x3C3}, {0x3C3, 0x3C3}, {0x3C9, 0x3C9},
		{0x40F, 0x40F}, {0x410, 0x430}, {0x42F, 0x44F}, {0x430, 0x430}, {0x44F, 0x44F},
		{0x1D5, 0x1D5}, {0x1EA0, 0x1EA0}, {0x2126, 0x2126}, {0x212B, 0x212B}, {0x301, 0x301}, {0xAC00, 0xAC00},
		{0, 0}, {0xD800, 0xD800}, {0x10FFFF, 0x10FFFF},
	} {
		wantFold(t, x[0], x[1])
	}
	wantFold(t, 0xDF, 0x73, 0x73)
}

func TestFoldOfAllSigns(t *testing.T) {
	folds := foldsByList()
	for c := -3000; c <= impl.MaxSign+3000; c++ {
		want := folds[c]
		if want == nil {
			want = []int{c}
		}
		wantFold(t, c, want...)
		for _, small := range impl.FoldOf(c) {
			wantFold(t, small, small)
		}
	}
	for _, c := range farNumbers {
		wantFold(t, c, c)
	}
}

func TestFoldOfKnownIsKnown(t *testing.T) {
	for c := range impl.MaxSign + 1 {
		for _, small := range impl.FoldOf(c) {
			if impl.Known(c) != impl.Known(small) {
				t.Errorf("%x is folded to %x: known %v, %v", c, small, impl.Known(c), impl.Known(small))
			}
		}
	}
}
