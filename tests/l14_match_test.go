package tests

import (
	"slices"
	"strings"
	"testing"

	"loop.example/g00773/impl"
)

// matchWords answers in the document's words. It makes the units of a name once, since most tests ask for the same names again and again.
type matchWords struct {
	nameWords
	made map[string][][]int
}

func newMatchWords(t *testing.T) matchWords {
	return matchWords{newNameWords(t), map[string][][]int{}}
}

func byBytes(a, b string) int {
	for i := 0; ; i++ {
		switch {
		case i == len(a) && i == len(b):
			return 0
		case i == len(a):
			return -1
		case i == len(b):
			return 1
		case a[i] < b[i]:
			return -1
		case a[i] > b[i]:
			return 1
		}
	}
}

// sortKey is what a text is ordered by first.
func (w matchWords) sortKey(s string) string {
	if key, ok := w.key(s); ok {
		return key
	}
	return s
}

func (w matchWords) order(a, b string) int {
	if byKey := byBytes(w.sortKey(a), w.sortKey(b)); byKey != 0 {
		return byKey
	}
	return byBytes(a, b)
}

// sorted takes the least one out, again and again.
func (w matchWords) sorted(l []string) []string {
	l = slices.Clone(l)
	var out []string
	for len(l) > 0 {
		least := 0
		for i := range l {
			if w.order(l[i], l[least]) < 0 {
				least = i
			}
		}
		out = append(out, l[least])
		l = slices.Delete(l, least, least+1)
	}
	return out
}

// units has none where it is no name: each name has one at least.
func (w matchWords) units(s string) [][]int {
	units, ok := w.made[s]
	if !ok {
		key, _ := w.key(s)
		signs, _ := signsBySteps(key)
		units = unitsByWords(signs)
		w.made[s] = units
	}
	return units
}

func (w matchWords) starts(name, prefix string) bool {
	all, first := w.units(name), w.units(prefix)
	if len(all) == 0 || len(first) == 0 || len(first) > len(all) {
		return false
	}
	for i, unit := range first {
		if !slices.Equal(all[i], unit) {
			return false
		}
	}
	return true
}

// glob goes through the pattern once, with all counts of the name's units that what is behind may fit.
func (w matchWords) glob(pattern, name string) bool {
	all, wanted := w.units(name), w.units(pattern)
	if len(all) == 0 || len(wanted) == 0 {
		return false
	}
	counts := map[int]bool{0: true}
	for _, unit := range wanted {
		next := map[int]bool{}
		for count := range counts {
			switch {
			case slices.Equal(unit, []int{0x2A}):
				for more := count; more <= len(all); more++ {
					next[more] = true
				}
			case count < len(all) && (slices.Equal(unit, []int{0x3F}) || slices.Equal(unit, all[count])):
				next[count+1] = true
			}
		}
		counts = next
	}
	return counts[len(all)]
}

func TestMatchByTheWordsThemselves(t *testing.T) {
	w := newMatchWords(t)
	if w.order("a", "b") != -1 || w.order("B", "a") != 1 || w.order("A", "a") != -1 || w.order("..", "...") != -1 || w.order("\xc3\xa5", "\xc3\xa5") != 0 {
		t.Error("the words have another order")
	}
	if got := w.sorted([]string{"c", "B", "a", "b", "A"}); !slices.Equal(got, []string{"A", "a", "B", "b", "c"}) {
		t.Errorf("the words sort to %q", got)
	}
	if !w.starts("\xc3\xa5b", "A\xcc\x8a") || w.starts("\xc3\xa5b", "a") || w.starts("a", "ab") || w.starts("a", "") {
		t.Error("the words have other beginnings")
	}
	if !w.glob("a*b*c", "aXbYbc") || !w.glob("**", "a") || !w.glob("??", "\xc3\x9f") || w.glob("a?c", "ac") || w.glob("", "") || w.glob("*.txt", "a.txt.gz") {
		t.Error("the words have other patterns")
	}
}

// wantOrder asks both ways round, and each text and itself.
func wantOrder(t *testing.T, a, b string, want int) {
	t.Helper()
	if got := impl.Order(a, b); got != want {
		t.Errorf("Order(%q, %q) = %d, not %d", shortened(a), shortened(b), got, want)
	}
	if got := impl.Order(b, a); got != -want {
		t.Errorf("Order(%q, %q) = %d, not %d", shortened(b), shortened(a), got, -want)
	}
	for _, s := range []string{a, b} {
		if got := impl.Order(s, strings.Clone(s)); got != 0 {
			t.Errorf("Order(%q, itself) = %d", shortened(s), got)
		}
	}
}

// wantSorted asks the answer, that it is in order, that what was given is left, and that they share nothing.
func wantSorted(t *testing.T, l []string, want ...string) {
	t.Helper()
	given, left := roomyTexts(l)
	got := impl.SortNames(given)
	if !slices.Equal(got, want) {
		t.Errorf("SortNames(%q) = %q, not %q", l, got, want)
	}
	for i := 1; i < len(got); i++ {
		if impl.Order(got[i-1], got[i]) > 0 {
			t.Errorf("SortNames(%q): %q stands ahead of %q", l, got[i-1], got[i])
		}
	}
	if again := impl.SortNames(got); !slices.Equal(again, want) {
		t.Errorf("SortNames of what is in order, %q = %q", want, again)
	}
	shown, writeOver := looseTexts(l)
	loosely := impl.SortNames(shown)
	writeOver()
	if !slices.Equal(loosely, want) {
		t.Errorf("SortNames(%q) shares the bytes of what was given", l)
	}
	_ = append(got, "more")
	spoilTexts(got)
	if !left() {
		t.Errorf("SortNames(%q) changed what was given, or shares memory with it", l)
	}
	if again := impl.SortNames(given); !slices.Equal(again, want) {
		t.Errorf("SortNames(%q) = %q behind a change of its answer, not %q", l, again, want)
	}
}

func wantStarts(t *testing.T, name, prefix string, want bool) {
	t.Helper()
	if got := impl.Starts(name, prefix); got != want {
		t.Errorf("Starts(%q, %q) = %v", shortened(name), shortened(prefix), got)
	}
}

func wantGlob(t *testing.T, pattern, name string, want bool) {
	t.Helper()
	if got := impl.Glob(pattern, name); got != want {
		t.Errorf("Glob(%q, %q) = %v", shortened(pattern), shortened(name), got)
	}
}

// ringed has twelve of a letter with its ring in 24 bytes; its key has 36 bytes, and is no name.
var ringed = strings.Repeat("\xc3\xa5", 12)
var ringedKey = strings.Repeat("a\xcc\x8a", 12)

func TestOrderByHand(t *testing.T) {
	for _, x := range []struct {
		why, a, b string
		want      int
	}{
		{"another letter", "a", "b", -1},
		{"another letter", "az", "b", -1},
		{"another letter", "a", "c", -1},
		{"a letter folded", "B", "a", 1},
		{"a letter folded", "a", "B", -1},
		{"a letter folded", "Z", "[", 1}, // without the fold it is less
		{"a letter folded", "_", "A", -1},
		{"the beginning of the other", "file", "filename", -1},
		{"the beginning of the other", "FILE", "filename", -1},
		{"the beginning of the other", "filf", "FILENAME", 1},
		{"the beginning of the other", "file", "file ", -1},
		{"alike: by themselves", "a", "A", 1},
		{"alike: by themselves", "aB", "Ab", 1},
		{"alike: by themselves", "Ab", "AB", 1},
		{"alike: by themselves", "\xc3\xa5", "a\xcc\x8a", 1},
		{"alike: by themselves", "A\xcc\x8a", "a\xcc\x8a", -1},
		{"alike: by themselves", "\xc3\x85", "\xe2\x84\xab", -1},
		{"alike: by themselves", "ss", "\xc3\x9f", -1},
		{"alike: by themselves", "Ss", "sS", -1},
		{"alike: by themselves", "a\xcc\x82\xcc\xa3", "a\xcc\xa3\xcc\x82", -1},
		{"alike, and one more behind: by their keys", "ab", "Ac", -1},
		{"alike, and one more behind: by their keys", "a\xcc\x8a", "\xc3\xa5b", -1},
		{"alike, and one more behind: by their keys", "\xc3\xa5", "a\xcc\x8ab", -1}, // by themselves it is greater
		{"alike, and one more behind: by their keys", "ab", "A", 1},
		{"a letter with a mark", "\xc3\xa5", "a", 1},
		{"a letter with a mark", "\xc3\xa5", "b", -1},
		{"a letter with a mark", "\xc3\xa5", "az", 1},
		{"a letter with a mark", "z", "\xc3\xa5", 1},
		{"another mark", "\xc3\xa4", "\xc3\xa5", -1},
		{"another mark", "a\xcc\x8a", "\xc3\xa4", 1},
		{"marks of one class, another way round", "u\xcc\x84\xcc\x88", "u\xcc\x88\xcc\x84", -1},
		{"marks put in order", "a\xcc\x82\xcc\xa3", "a\xcc\x82", 1},
		{"marks put in order", "a\xcc\xa3", "a\xcc\x82\xcc\xa3", -1},
		{"more bytes", "z", "\xce\xb1", -1},
		{"more bytes", "\xce\xb1", "\xd0\xb0", -1},
		{"more bytes", "\xd0\xb0", "\xea\xb0\x80", -1},
		{"more bytes", "\xea\xb0\x80", "\xe1\x86\xa8", -1}, // it is taken apart
		{"more bytes", "\xea\xb0\x81", "\xea\xb0\x80", 1},
		{"more bytes", "\xea\xb0\x81", "\xea\xb0\x80z", 1},
		{"more bytes", "\xc3\xbf", "z", -1}, // it is taken apart
		{"more bytes", "\xc3\xbe", "z", 1},
		{"bytes above 127", "~", "\xc2\xa1", -1},
		{"a mark ahead", "\xcc\x81", "z", 1},
		{"no name: no byte", "", "a", -1},
		{"no name: no byte", "", "\x00", -1},
		{"no name: points", ".", "..", -1},
		{"no name: points", "..", "...", -1},
		{"no name: points", ".", "-", 1},
		{"no name: points", "..", "a", -1},
		{"no name: points", "...", ".", 1},
		{"no name: a slash", "A/B", "A", -1}, // it is not folded
		{"no name: a slash", "A/B", "a", -1},
		{"no name: a slash", "a/b", "A", 1},
		{"no name: a slash", "a/b", "ab", -1},
		{"no name: a slash", "A/B", "a/b", -1},
		{"no name: a slash", "A/c", "a/b", -1},
		{"no name: a slash", "\xc3\xa5/", "b", 1}, // it is not taken apart
		{"no name: no sign", "\xff", "\xea\xb0\x80", 1},
		{"no name: no sign", "A\xff", "a", -1},
		{"no name: no sign", "a\xff", "\xc3\xa5", 1},
		{"no name: no sign", "\xed\xa0\x80", "\xff", -1},
		{"no name: not Known", "\xc4\x80", "\xc4\x81", -1},
		{"no name: not Known", "A\n", "a", -1},
		{"no name: long", strings.Repeat("A", 25), "a", -1},
		{"no name: long", strings.Repeat("A", 24), "a", 1},
		{"no name: long", strings.Repeat("A", 25), strings.Repeat("A", 24), -1},
		{"no name: long", strings.Repeat("a", 25), strings.Repeat("A", 24), 1},
		{"no name: long", strings.Repeat("a", 25), strings.Repeat("a", 24), 1},
		{"no name: long", strings.Repeat("A", 25), strings.Repeat("a", 25), -1},
		{"no name: long", strings.Repeat("A", 1<<20), strings.Repeat("A", 1<<20) + "A", -1},
		{"no name, but the key of one: by themselves", ringed, ringedKey, 1},
		{"no name, but the key of one: by themselves", strings.ToUpper(ringed), ringedKey, 1},
		{"no name, but begins with the key of one", ringed, ringedKey + "a", -1},
		{"no name, but the beginning of a key", ringed, ringedKey[:35], 1},
		{"no name, and beside the key of one", ringed, ringedKey[:35] + "\x89", 1},
		{"no name, and beside the key of one", ringed, ringedKey[:35] + "\x8b", -1},
	} {
		if impl.Order(x.a, x.b) != x.want {
			t.Error(x.why)
		}
		wantOrder(t, x.a, x.b, x.want)
	}
}

// orderTexts has names that are alike, beginnings of others, signs of more bytes, and texts that are no names.
func orderTexts() []string {
	var out []string
	for _, row := range likeNames {
		out = append(out, row...)
	}
	out = append(out, badNames...)
	out = append(out,
		"AB", "ab", "aB", "abc", "Abd", "file", "filename", "FILENAME", "files", "A/B", "A\xff", "a\xff", "\xc3\xa5/", "a\xcc\x8a/", "...a", "..A", ".a",
		ringed, strings.ToUpper(ringed), ringedKey, ringedKey+"a", ringedKey[:35], strings.Repeat("A", 24), strings.Repeat("a", 24), strings.Repeat("A", 25), strings.Repeat("a", 25),
		"a?", "a*", "A?", "?", "*", "\xea\xb0\x80z", "\xe1\x84\x80", "\xe1\x84\x80\xe1\x85\xa1z",
	)
	slices.Sort(out)
	return slices.Compact(out)
}

func TestOrderOfEachTwo(t *testing.T) {
	w := newMatchWords(t)
	texts := orderTexts()
	keys := map[string]string{}
	for _, s := range texts {
		keys[s] = w.sortKey(s)
	}
	for _, a := range texts {
		for _, b := range texts {
			want := byBytes(keys[a], keys[b])
			if want == 0 {
				want = byBytes(a, b)
			}
			wantOrder(t, a, b, want)
			if (a == b) != (want == 0) {
				t.Errorf("the words have %d of %q and %q", want, a, b)
			}
		}
	}
}

// One order of all: both ways round, and on from one to the next.
func TestOrderOnFromOneToTheNext(t *testing.T) {
	texts := orderTexts()
	stand := make([][]int, len(texts))
	for i, a := range texts {
		for _, b := range texts {
			stand[i] = append(stand[i], impl.Order(a, b))
		}
	}
	for i, a := range texts {
		for j, b := range texts {
			if stand[i][j] != -stand[j][i] || (i == j) != (stand[i][j] == 0) {
				t.Errorf("Order(%q, %q) = %d, the other way round %d", a, b, stand[i][j], stand[j][i])
			}
			if stand[i][j] > 0 {
				continue
			}
			for k, c := range texts {
				if stand[j][k] <= 0 && stand[i][k] != min(stand[i][j], stand[j][k]) {
					t.Errorf("%q, %q, %q: %d and %d, but %d", a, b, c, stand[i][j], stand[j][k], stand[i][k])
				}
			}
		}
	}
}

// Alike names stand the same to all others: by themselves only to one another.
func TestOrderOfAlikeNamesToOthers(t *testing.T) {
	texts := orderTexts()
	w := newMatchWords(t)
	for _, row := range likeNames {
		for _, a := range row {
			for _, b := range row {
				wantOrder(t, a, b, byBytes(a, b))
			}
			for _, c := range texts {
				if w.sortKey(c) != w.sortKey(a) && impl.Order(a, c) != impl.Order(row[0], c) {
					t.Errorf("%q and %q are alike, but to %q: %d and %d", a, row[0], c, impl.Order(a, c), impl.Order(row[0], c))
				}
			}
		}
	}
	byThemselves := 0
	for i, row := range likeNames {
		for _, other := range likeNames[:i] {
			if impl.Order(row[0], other[0]) != byBytes(row[0], other[0]) {
				byThemselves++
			}
		}
	}
	if byThemselves == 0 {
		t.Error("no two names stand another way by themselves")
	}
}

func TestOrderOfRows(t *testing.T) {
	w := newMatchWords(t)
	var texts []string
	rowsOf([]int{0x41, 0x61, 0x30A, 0x323, 0xC5, 0xDF, 0x2F}, 2, func(l []int) { texts = append(texts, signText(l...)) })
	for _, a := range texts {
		for _, b := range texts {
			wantOrder(t, a, b, w.order(a, b))
		}
	}
}

func TestSortNamesByHand(t *testing.T) {
	wantSorted(t, nil)
	wantSorted(t, []string{})
	wantSorted(t, []string{"a", "b"}[:0])
	wantSorted(t, []string{"a"}, "a")
	wantSorted(t, []string{""}, "")
	wantSorted(t, []string{"a/b"}, "a/b")
	wantSorted(t, []string{"c", "B", "a", "b", "A"}, "A", "a", "B", "b", "c")
	wantSorted(t, []string{"a", "B", "c", "D", "e"}, "a", "B", "c", "D", "e")
	wantSorted(t, []string{"e", "D", "c", "B", "a"}, "a", "B", "c", "D", "e")
	wantSorted(t, []string{"b", "a", "b"}, "a", "b", "b")
	wantSorted(t, []string{"b", "b"}, "b", "b")
	wantSorted(t, []string{"b", "B", "b", "B", "a", "b"}, "a", "B", "B", "b", "b", "b")
	wantSorted(t, []string{"", "b", "", "a", ""}, "", "", "", "a", "b")
	wantSorted(t, []string{"filename", "FILE", "file", "files", "Filename", "fi"}, "fi", "FILE", "file", "Filename", "filename", "files")
	wantSorted(t, []string{"b", "\xc3\xa5", "a", "A\xcc\x8a", "az", "\xe2\x84\xab", "\xc3\xa4"}, "a", "az", "\xc3\xa4", "A\xcc\x8a", "\xc3\xa5", "\xe2\x84\xab", "b")
	wantSorted(t, []string{"\xc3\x9f", "st", "SS", "ss", "sr"}, "sr", "SS", "ss", "\xc3\x9f", "st")
	wantSorted(t, []string{"b", "..", "A/B", "\xff", "a", ".", "", "a/b", "..."}, "", ".", "..", "...", "A/B", "a", "a/b", "b", "\xff")
	wantSorted(t, []string{ringed, ringedKey + "a", ringedKey, ringedKey[:35], strings.ToUpper(ringed)}, ringedKey[:35], ringedKey, strings.ToUpper(ringed), ringed, ringedKey+"a")
}

// eachOrderOf hands over the texts in all their orders; the row is the next one's, too.
func eachOrderOf(l []string, do func([]string)) {
	l = slices.Clone(l)
	var turn func(at int)
	turn = func(at int) {
		if at == len(l) {
			do(l)
			return
		}
		for i := at; i < len(l); i++ {
			l[at], l[i] = l[i], l[at]
			turn(at + 1)
			l[at], l[i] = l[i], l[at]
		}
	}
	turn(0)
}

func TestSortNamesOfEachOrder(t *testing.T) {
	for _, want := range [][]string{
		{"a", "B", "c"},
		{"A", "a", "B", "b", "c"},
		{"", ".", "..", "A/B", "A", "a", "\xff"},
		{"a", "a\xcc\x8a", "\xc3\xa5", "\xe2\x84\xab", "\xc3\xa5b", "B"},
		{"a", "a", "B", "b", "b", "b"},
		{"", "", "ss", "ss", "\xc3\x9f", "t"},
	} {
		count := 0
		eachOrderOf(want, func(l []string) {
			count++
			wantSorted(t, l, want...)
		})
		if count < 6 {
			t.Errorf("%q has %d orders", want, count)
		}
	}
}

func TestSortNamesOfAllTexts(t *testing.T) {
	w := newMatchWords(t)
	texts := orderTexts()
	want := w.sorted(texts)
	s := steady{14}
	for range 40 {
		for i := range texts {
			j := i + s.below(len(texts)-i)
			texts[i], texts[j] = texts[j], texts[i]
		}
		wantSorted(t, texts, want...)
	}
	for range 300 {
		l := texts[:s.below(len(texts))]
		var some []string
		for range s.below(30) {
			if len(l) > 0 {
				some = append(some, l[s.below(len(l))])
			}
		}
		wantSorted(t, some, w.sorted(some)...)
	}
}

func TestSortNamesOfMany(t *testing.T) {
	const count = 60000
	var l []string
	for i := range count {
		n := i * 7919 % count
		l = append(l, impl.Hex(impl.Fixed(n, 3)))
	}
	for i, s := range impl.SortNames(l) {
		if s != impl.Hex(impl.Fixed(i, 3)) {
			t.Fatalf("of many names %q stands at %d", s, i)
		}
	}
	same := slices.Repeat([]string{"\xc3\xa5", "a\xcc\x8a"}, count)
	if got := impl.SortNames(same); !slices.Equal(got, slices.Concat(slices.Repeat([]string{"a\xcc\x8a"}, count), slices.Repeat([]string{"\xc3\xa5"}, count))) {
		t.Error("many alike names are not sorted")
	}
	long := strings.Repeat("A", 1<<20)
	if got := impl.SortNames([]string{long + "B", "a", long + "A", long}); !slices.Equal(got, []string{long, long + "A", long + "B", "a"}) {
		t.Error("long texts are not sorted")
	}
}

func TestStartsByHand(t *testing.T) {
	for _, x := range []struct {
		why, name, prefix string
		want              bool
	}{
		{"itself", "a", "a", true},
		{"itself", "filename", "filename", true},
		{"itself, spelled another way", "FileName", "fILEnAME", true},
		{"itself, spelled another way", "\xc3\xa5", "a\xcc\x8a", true},
		{"a longer one", "a", "ab", false},
		{"a longer one", "file", "filename", false},
		{"a beginning", "filename", "file", true},
		{"a beginning", "Filename", "fILE", true},
		{"a beginning", "filename", "f", true},
		{"no beginning", "filename", "name", false},
		{"no beginning", "filename", "filf", false},
		{"no beginning", "filename", "g", false},
		{"no beginning", "filename", "filenames", false},
		{"signs of a pattern", "filename", "file*", false},
		{"signs of a pattern", "filename", "f?", false},
		{"signs of a pattern", "f?lename", "f?", true},
		{"signs of a pattern", "f*", "F*", true},
		{"spelled another way", "\xc3\xa5b", "A\xcc\x8a", true},
		{"spelled another way", "A\xcc\x8ab", "\xe2\x84\xab", true},
		{"spelled another way", "stra\xc3\x9fe", "STRASS", true},
		{"spelled another way", "a\xcc\x82\xcc\xa3b", "\xe1\xba\xac", true},
		{"spelled another way", "\xcf\x83\xce\xb1", "\xcf\x82", true},
		{"in the midst of a letter with its marks", "\xc3\xa5b", "a", false},
		{"in the midst of a letter with its marks", "\xc3\xa5", "a", false},
		{"in the midst of a letter with its marks", "a\xcc\x8a", "A", false},
		{"in the midst of a letter with its marks", "xa\xcc\x8a", "xa", false},
		{"in the midst of a letter with its marks", "xa\xcc\x8a", "x", true},
		{"in the midst of a letter with its marks", "\xe1\xba\xad", "\xe1\xba\xa1", false},
		{"in the midst of a letter with its marks", "\xe1\xba\xad", "\xc3\xa2", false},
		{"in the midst of a letter with its marks", "\xc7\x96b", "\xc3\xbc", false},
		{"in the midst of marks that have no letter", "\xcc\x81\xcc\x80a", "\xcc\x81", false},
		{"in the midst of marks that have no letter", "\xcc\x81\xcc\x80a", "\xcc\x81\xcc\x80", true},
		{"with one mark more", "ab", "a\xcc\x8a", false},
		{"with one mark more", "\xc3\xa5b", "\xc3\xa5\xcc\x81", false},
		{"with another mark", "\xc3\xa5b", "\xc3\xa4", false},
		{"in the midst of a sign that folds to two", "\xc3\x9f", "s", true},
		{"in the midst of a sign that folds to two", "a\xc3\x9f", "AS", true},
		{"in the midst of a sign that folds to two", "\xc3\x9f\xcc\x81", "s", true},
		{"in the midst of a sign that folds to two", "\xc3\x9f\xcc\x81", "ss", false},
		{"in the midst of a sign that folds to two", "\xc3\x9f\xcc\x81", "ss\xcc\x81", true},
		{"in the midst of a sign that folds to two", "\xc3\x9f", "s\xcc\x81", false},
		{"a sign that folds to two", "s", "\xc3\x9f", false},
		{"a sign that folds to two", "sst", "\xc3\x9f", true},
		{"in the midst of a syllable", "\xea\xb0\x81", "\xea\xb0\x80", true}, // each sign that it is made of is a unit
		{"in the midst of a syllable", "\xea\xb0\x80", "\xe1\x84\x80", true},
		{"in the midst of a syllable", "\xea\xb0\x80", "\xea\xb0\x81", false},
		{"no name: no byte", "a", "", false},
		{"no name: no byte", "", "a", false},
		{"no name: no byte", "", "", false},
		{"no name: points", "...", "..", false},
		{"no name: points", ".a", ".", false},
		{"no name: points", "..", "..", false},
		{"no name: points", ".", ".", false},
		{"no name: points", "..", "...", false},
		{"three points", "...", "...", true},
		{"three points", "....", "...", true},
		{"no name: a slash", "a/b", "a", false},
		{"no name: a slash", "a/b", "a/b", false},
		{"no name: a slash", "a", "/", false},
		{"no name: no sign", "a\xff", "a", false},
		{"no name: no sign", "\xff", "\xff", false},
		{"no name: no sign", "\xc3\xa5", "\xc3", false},
		{"no name: not Known", "\xc4\x80", "\xc4\x80", false},
		{"no name: not Known", "a\n", "a", false},
		{"no name: long", strings.Repeat("a", 25), "a", false},
		{"no name: long", strings.Repeat("a", 24), strings.Repeat("a", 25), false},
		{"no name: long", strings.Repeat("a", 25), strings.Repeat("a", 25), false},
		{"no name: long", ringedKey, "a\xcc\x8a", false},
		{"no name: long", ringed, ringedKey, false},
		{"as long as can be", strings.Repeat("a", 24), strings.Repeat("A", 24), true},
		{"as long as can be", strings.Repeat("a", 24), strings.Repeat("A", 23), true},
		{"a key that is longer", ringed, "a\xcc\x8a", true},
		{"a key that is longer", ringed, ringed, true},
		{"a key that is longer", ringed, strings.ToUpper(ringed), true},
		{"a key that is longer", ringed, ringedKey[:24], true},
		{"a key that is longer", strings.Repeat("\xea\xb0\x81", 8), "\xea\xb0\x81\xea\xb0\x80", true},
	} {
		if impl.Starts(x.name, x.prefix) != x.want {
			t.Error(x.why)
		}
		wantStarts(t, x.name, x.prefix, x.want)
	}
}

func TestStartsOfEachTwo(t *testing.T) {
	w := newMatchWords(t)
	texts := orderTexts()
	begins := 0
	for _, a := range texts {
		wantStarts(t, a, a, impl.NameOk(a))
		for _, b := range texts {
			wantStarts(t, a, b, w.starts(a, b))
			if impl.Starts(a, b) && impl.Starts(b, a) != impl.Alike(a, b) {
				t.Errorf("%q and %q begin with one another, and Alike is %v", a, b, impl.Alike(a, b))
			}
			if impl.Starts(a, b) && !impl.Alike(a, b) {
				begins++
			}
		}
	}
	if begins < 20 {
		t.Errorf("only %d names begin with another one", begins)
	}
}

func TestStartsOfRows(t *testing.T) {
	w := newMatchWords(t)
	var names []string
	rowsOf([]int{0x61, 0x30A, 0x323, 0xC5, 0xDF}, 3, func(l []int) { names = append(names, signText(l...)) })
	for _, name := range names {
		for _, prefix := range names {
			wantStarts(t, name, prefix, w.starts(name, prefix))
		}
	}
}

func TestGlobByHand(t *testing.T) {
	for _, x := range []struct {
		why, pattern, name string
		want               bool
	}{
		{"letters alone", "a", "a", true},
		{"letters alone", "aBc", "AbC", true},
		{"letters alone", "ab", "abc", false},
		{"letters alone", "abc", "ab", false},
		{"letters alone", "ab", "ba", false},
		{"letters alone", "a", "b", false},
		{"letters alone", "a", "?", false}, // of the name they are signs like others
		{"letters alone", "a", "*", false},
		{"letters alone, spelled another way", "\xc3\xa5", "A\xcc\x8a", true},
		{"letters alone, spelled another way", "\xc3\x9f", "Ss", true},
		{"letters alone, spelled another way", "\xe1\xba\xad", "A\xcc\x82\xcc\xa3", true},
		{"letters alone, spelled another way", "\xc3\xa5", "\xc3\xa4", false},

		{"?", "?", "a", true},
		{"?", "?", "ab", false},
		{"?", "?", "?", true},
		{"?", "?", "*", true},
		{"?", "??", "a", false},
		{"?", "??", "ab", true},
		{"? beside letters", "a?c", "aBc", true},
		{"? beside letters", "a?c", "ac", false},
		{"? beside letters", "a?c", "abbc", false},
		{"? beside letters", "?b", "ab", true},
		{"? beside letters", "?b", "b", false},
		{"? beside letters", "b?", "b", false},
		{"? beside letters", "B?", "ba", true},
		{"? beside letters", "B?", "ca", false},
		{"? at a letter with marks", "?", "\xc3\xa5", true},
		{"? at a letter with marks", "?", "a\xcc\x8a", true},
		{"? at a letter with marks", "?", "a\xcc\x82\xcc\xa3", true},
		{"? at a letter with marks", "?", "a\xcc\x8a\xcc\x8a\xcc\x8a\xcc\x8a\xcc\x8a", true},
		{"? at a letter with marks", "??", "a\xcc\x8a", false},
		{"? at a letter with marks", "?b", "\xc3\xa5B", true},
		{"? at a letter with marks", "a?", "\xc3\xa5", false},
		{"? at marks that have no letter", "?", "\xcc\x81", true},
		{"? at marks that have no letter", "?", "\xcc\x81\xcc\x80", true},
		{"? at marks that have no letter", "?a", "\xcc\x81a", true},
		{"? at a sign that folds to two", "?", "\xc3\x9f", false},
		{"? at a sign that folds to two", "??", "\xc3\x9f", true},
		{"? at a sign that folds to two", "s?", "\xc3\x9f", true},
		{"? at a sign that folds to two", "?s", "\xc3\x9f\xcc\x81", false},
		{"? at a sign that folds to two", "s?", "\xc3\x9f\xcc\x81", true},
		{"? at a syllable", "?", "\xea\xb0\x80", false}, // each sign that it is made of is a unit
		{"? at a syllable", "??", "\xea\xb0\x80", true},
		{"? at a syllable", "???", "\xea\xb0\x81", true},
		{"? at a syllable", "\xea\xb0\x80?", "\xea\xb0\x81", true},
		{"? and marks", "?\xcc\x81", "a\xcc\x81", false},
		{"? and marks", "?\xcc\x81", "\xc3\xa1", false},
		{"? and marks", "?\xcc\x81", "?\xcc\x81", true},
		{"? and marks", "?\xcc\x81", "?", false},
		{"? and marks", "?", "?\xcc\x81", true},
		{"? and marks", "?\xcc\x81\xcc\xa3", "?\xcc\xa3\xcc\x81", true},
		{"? and marks", "a?\xcc\x81b", "A?\xcc\x81B", true},
		{"? and marks", "a?\xcc\x81b", "axb", false},
		{"? behind marks", "\xcc\x81?", "\xcc\x81a", true},
		{"? behind marks", "\xcc\x81?", "\xcc\x81", false},

		{"* alone", "*", "anything", true},
		{"* alone", "*", "a", true},
		{"* alone", "*", "\xc3\xa5", true},
		{"* alone", "*", "\xcc\x81", true},
		{"* alone", "*", "*", true},
		{"* alone", "*", "?", true},
		{"* alone", "*", ringed, true},
		{"* at the beginning", "*c", "abc", true},
		{"* at the beginning", "*c", "c", true},
		{"* at the beginning", "*c", "cc", true},
		{"* at the beginning", "*c", "cb", false},
		{"* at the beginning", "*.TXT", "a.b.txt", true},
		{"* at the beginning", "*.txt", "a.txt.gz", false},
		{"* at the beginning", "*.txt", ".txt", true},
		{"* at the beginning", "*ab", "aab", true},
		{"* at the beginning", "*aab", "aaab", true},
		{"* in the midst", "a*c", "abbbc", true},
		{"* in the midst", "a*c", "ac", true},
		{"* in the midst", "a*c", "a", false},
		{"* in the midst", "a*c", "c", false},
		{"* in the midst", "a*a", "a", false}, // one a is not both
		{"* in the midst", "a*a", "aa", true},
		{"* in the midst", "a*c", "abcb", false},
		{"* in the midst", "a*c", "acbc", true},
		{"* in the midst", "ab*ba", "aba", false},
		{"* in the midst", "ab*ba", "abba", true},
		{"* at the end", "a*", "a", true},
		{"* at the end", "a*", "Abc", true},
		{"* at the end", "a*", "ba", false},
		{"* at the end", "ab*", "a", false},
		{"* at the end", "A\xcc\x8a*", "\xc3\xa5ngstrom", true},
		{"* at the end", "a*", "\xc3\xa5", false}, // the letter with its mark is one unit
		{"* at the end", "a*", "\xc3\xa5ngstrom", false},
		{"* at the end", "s*", "\xc3\x9f", true},
		{"two side by side", "**", "a", true},
		{"two side by side", "**", "abc", true},
		{"two side by side", "a**", "a", true},
		{"two side by side", "**a", "a", true},
		{"two side by side", "a**b", "ab", true},
		{"two side by side", "a**b", "axb", true},
		{"two side by side", "a**b", "axyb", true},
		{"two side by side", "a**b", "axyc", false},
		{"two side by side", "a***b", "ab", true},
		{"two apart", "a*b*c", "aXbYbc", true},
		{"two apart", "a*b*c", "abc", true},
		{"two apart", "a*b*c", "acb", false},
		{"two apart", "a*b*c", "acbc", true},
		{"two apart", "a*b*c", "ac", false},
		{"two apart", "*a*", "a", true},
		{"two apart", "*a*", "bab", true},
		{"two apart", "*a*", "bbb", false},
		{"two apart", "*a*", "b\xc3\xa5b", false},
		{"two apart", "*ab*ab*", "abab", true},
		{"two apart", "*ab*ab*", "aab", false},
		{"two apart", "*ab*ba*", "aba", false},
		{"two apart", "*ab*ba", "abba", true},
		{"two apart", "a*b*", "ba", false},
		{"fits nothing", "*a", "a", true},
		{"fits nothing", "*a*b*", "ab", true},
		{"fits nothing", "*\xc3\xa5*", "a\xcc\x8a", true},
		{"fits nothing", "*?", "a", true},
		{"fits nothing", "?*", "a", true},
		{"fits nothing", "?*?", "a", false},
		{"fits nothing", "?*?", "ab", true},
		{"fits nothing", "*?*", "a", true},
		{"fits nothing", "*??*", "a", false},
		{"* and ?", "*?b", "ab", true},
		{"* and ?", "*?b", "b", false},
		{"* and ?", "a*?", "a", false},
		{"* and ?", "a?*", "ab", true},
		{"* and ?", "*?*?*", "ab", true},
		{"* and marks", "*\xcc\x81", "*\xcc\x81", true},
		{"* and marks", "*\xcc\x81", "a\xcc\x81", false},
		{"* and marks", "*\xcc\x81", "\xcc\x81", false},
		{"* and marks", "*\xcc\x81", "ab\xcc\x81", false},
		{"* and marks", "*\xcc\x81", "*", false},
		{"* and marks", "*", "*\xcc\x81", true},
		{"* and marks", "*\xcc\x81\xcc\xa3", "*\xcc\xa3\xcc\x81", true},
		{"* and marks", "**\xcc\x81", "ab*\xcc\x81", true},
		{"* and marks", "*\xcc\x81*", "*\xcc\x81ab", true},
		{"* and marks", "*\xcc\x81*", "ab", false},
		{"* behind marks", "\xcc\x81*", "\xcc\x81", true},
		{"* behind marks", "\xcc\x81*", "\xcc\x81ab", true},
		{"* behind marks", "\xcc\x81*", "a\xcc\x81", false},
		{"? and * in the name", "a?", "a*", true},
		{"? and * in the name", "a*", "a*", true},
		{"? and * in the name", "a*b", "a*b", true},
		{"? and * in the name", "ab", "a*", false},
		{"? and * in the name", "a", "a*", false},

		{"a longer pattern", "abcd", "abc", false},
		{"a longer pattern", "????", "abc", false},
		{"a longer pattern", "*a*b*c*", "abc", true},
		{"a longer pattern", strings.Repeat("*", 24), "a", true},
		{"a longer pattern", strings.Repeat("*", 23) + "a", "a", true},
		{"a longer pattern", strings.Repeat("*", 23) + "b", "a", false},
		{"as long as can be", strings.Repeat("?", 24), strings.Repeat("a", 24), true},
		{"as long as can be", strings.Repeat("?", 23), strings.Repeat("a", 24), false},
		{"as long as can be", strings.Repeat("?", 24), strings.Repeat("\xc3\x9f", 12), true},
		{"as long as can be", strings.Repeat("?", 24), strings.Repeat("\xea\xb0\x81", 8), true},
		{"a key that is longer", strings.Repeat("?", 12), ringed, true},
		{"a key that is longer", strings.Repeat("?", 13), ringed, false},
		{"a key that is longer", ringed, strings.ToUpper(ringed), true},
		{"a key that is longer", "*" + ringedKey[:21] + "?", ringed, true},

		{"no name: no byte", "", "", false},
		{"no name: no byte", "", "a", false},
		{"no name: no byte", "*", "", false},
		{"no name: points", ".", ".", false},
		{"no name: points", "..", "..", false},
		{"no name: points", "*", ".", false},
		{"no name: points", "?", ".", false},
		{"no name: points", "*", "..", false},
		{"no name: points", "??", "..", false},
		{"no name: points", ".*", "..", false},
		{"three points", "???", "...", true},
		{"three points", "..?", "...", true},
		{"three points", ".*", "...", true},
		{"no name: a slash", "*", "a/b", false},
		{"no name: a slash", "a/b", "a/b", false},
		{"no name: a slash", "*/", "a", false},
		{"no name: no sign", "*", "\xff", false},
		{"no name: no sign", "*", "a\xcc", false},
		{"no name: no sign", "*\xff", "a", false},
		{"no name: no sign", "\xff", "\xff", false},
		{"no name: not Known", "*", "\xc4\x80", false},
		{"no name: not Known", "?", "\x00", false},
		{"no name: not Known", "*\n", "a", false},
		{"no name: long", "*", strings.Repeat("a", 25), false},
		{"no name: long", "*", ringedKey, false},
		{"no name: long", strings.Repeat("*", 25), "a", false},
		{"no name: long", strings.Repeat("?", 25), strings.Repeat("a", 25), false},
		{"no name: long", "*", strings.Repeat("a", 1<<20), false},
		{"no name: long", strings.Repeat("*", 1<<20), "a", false},
	} {
		if impl.Glob(x.pattern, x.name) != x.want {
			t.Error(x.why)
		}
		wantGlob(t, x.pattern, x.name, x.want)
	}
}

func TestGlobOfBadNames(t *testing.T) {
	patterns := []string{"*", "**", "?", "??", "*?", "?*", "a", "a*", "*a", "\xc3\xa5", ".*", "..*", "*.", "???"}
	for _, bad := range badNames {
		for _, pattern := range append(patterns, bad, bad+"*", "*"+bad) {
			wantGlob(t, pattern, bad, false)
		}
		for _, row := range likeNames {
			wantGlob(t, bad, row[0], false)
		}
		wantGlob(t, bad, bad, false)
	}
}

// A pattern fits a name however both are spelled: each name fits itself, and no other one.
func TestGlobOfEachTwo(t *testing.T) {
	for i, row := range likeNames {
		for j, other := range likeNames {
			for _, pattern := range row {
				for _, name := range other {
					wantGlob(t, pattern, name, i == j)
				}
			}
		}
	}
}

// spellings has a name apart, put together, and in capitals where these are alike.
func (w matchWords) spellings(c composeWords, units [][]int) []string {
	signs := slices.Concat(units...)
	small := signText(signs...)
	together := signText(c.compose(signs)...)
	out := []string{small, together}
	for _, s := range []string{strings.ToUpper(small), strings.ToUpper(together)} {
		if w.sortKey(s) == w.sortKey(small) {
			out = append(out, s)
		}
	}
	return out
}

// Each name begins with each beginning of it, and fits it with * behind, however both are spelled; so of the ends with * ahead.
func TestEachNameAndItsBeginnings(t *testing.T) {
	w := newMatchWords(t)
	c := newComposeWords(t)
	asked, long := 0, 0
	for _, row := range append(slices.Clone(likeNames), []string{ringed, strings.ToUpper(ringed)}, []string{"a?*b", "A?*B"}, []string{strings.Repeat("\xea\xb0\x81", 8)}) {
		units := w.units(row[0])
		for count := range len(units) + 1 {
			for _, name := range row {
				for _, first := range w.spellings(c, units[:count]) {
					right := len(first) < 24
					wantGlob(t, first+"*", name, right)
					wantStarts(t, name, first, impl.NameOk(first))
					asked++
					if !right {
						long++
					}
				}
				for _, last := range w.spellings(c, units[count:]) {
					ahead := "*" + last
					wantGlob(t, ahead, name, w.glob(ahead, name))
					if len(last) < 24 && (count == len(units) || classByList(units[count][0]) == 0) && !w.glob(ahead, name) {
						t.Errorf("the words have %q not fit %q", ahead, name)
					}
				}
			}
		}
	}
	if asked < 500 || long == 0 {
		t.Errorf("%d beginnings, %d too long", asked, long)
	}
}

// One unit less or more, in place of ? and *.
func TestGlobOfNamesWithOneUnitChanged(t *testing.T) {
	w := newMatchWords(t)
	for _, row := range likeNames {
		units := w.units(row[0])
		for at := range units {
			ahead, behind := signText(slices.Concat(units[:at]...)...), signText(slices.Concat(units[at+1:]...)...)
			if len(ahead)+len(behind) > 22 || at+1 < len(units) && classByList(units[at+1][0]) > 0 {
				continue
			}
			for _, name := range row {
				wantGlob(t, ahead+"?"+behind, name, true)
				wantGlob(t, ahead+"*"+behind, name, true)
				wantGlob(t, ahead+"??"+behind, name, false)
				wantGlob(t, ahead+"**"+behind, name, true)
				wantGlob(t, ahead+"?*"+behind, name, true)
				wantGlob(t, ahead+"*?"+behind, name, true)
				if ahead+behind != "." && ahead+behind != ".." {
					wantGlob(t, ahead+behind, name, w.glob(ahead+behind, name))
				}
			}
		}
	}
}

// wantGlobsByWords asks all patterns of up to four of these signs at all names of up to four of those.
func wantGlobsByWords(t *testing.T, w matchWords, ofPatterns, ofNames []int) {
	t.Helper()
	var patterns, names []string
	rowsOf(ofPatterns, 4, func(l []int) { patterns = append(patterns, signText(l...)) })
	rowsOf(ofNames, 4, func(l []int) { names = append(names, signText(l...)) })
	fit := 0
	for _, pattern := range patterns {
		for _, name := range names {
			want := w.glob(pattern, name)
			wantGlob(t, pattern, name, want)
			if want {
				fit++
			}
		}
	}
	if fit < 1000 || fit > len(patterns)*len(names)/2 {
		t.Errorf("of %d patterns and %d names %d fit", len(patterns), len(names), fit)
	}
}

func TestGlobOfRows(t *testing.T) {
	for _, x := range [][2][]int{
		{{0x3F, 0x2A, 0x61, 0x62}, {0x41, 0x62, 0x3F, 0x2A}},
		{{0x3F, 0x2A, 0x61, 0x30A}, {0x61, 0x30A, 0xC5, 0x2A}},
		{{0x2A, 0xDF, 0x73, 0x3F}, {0x53, 0xDF, 0x301}},
	} {
		wantGlobsByWords(t, newMatchWords(t), x[0], x[1])
	}
}

func TestGlobForLong(t *testing.T) {
	w := newMatchWords(t)
	s := steady{140}
	from := []string{"a", "A", "b", "\xc3\xa5", "a\xcc\x8a", "\xc3\x9f", "s", "\xcc\xa3", "\xea\xb0\x81"}
	grown := func(signs []string, room int) string {
		var out strings.Builder
		for {
			sign := signs[s.below(len(signs))]
			if out.Len()+len(sign) > room {
				return out.String()
			}
			out.WriteString(sign)
		}
	}
	fit := 0
	for range 20000 {
		name := grown(from, s.below(25))
		// A pattern is grown out of the name, so that many fit.
		pattern := ""
		signs, _ := signsBySteps(name)
		for _, c := range signs {
			switch s.below(8) {
			case 0:
				pattern += "*"
			case 1:
				pattern += "?"
			case 2:
				pattern += "*" + signText(c)
			case 3:
				if s.below(3) == 0 {
					pattern += grown(from, 3)
				}
			default:
				pattern += signText(c)
			}
		}
		want := w.glob(pattern, name)
		wantGlob(t, pattern, name, want)
		if want {
			fit++
		}
	}
	if fit < 2000 || fit > 18000 {
		t.Errorf("of 20000 patterns %d fit", fit)
	}
}

// Many stars have many ways to be fitted: the answer comes all the same.
func TestGlobOfManyStars(t *testing.T) {
	letters := strings.Repeat("a", 24)
	for range 400 {
		wantGlob(t, strings.Repeat("*a", 11)+"*b", letters, false)
		wantGlob(t, strings.Repeat("*a", 12), letters, true)
		wantGlob(t, strings.Repeat("*?", 11)+"*b", strings.Repeat("\xc3\x9f", 12), false)
		wantGlob(t, strings.Repeat("a*", 12), letters, true)
		wantGlob(t, "b"+strings.Repeat("*a", 11), letters, false)
		wantGlob(t, strings.Repeat("*", 23)+"b", letters, false)
	}
}
