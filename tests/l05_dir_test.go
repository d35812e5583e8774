package tests

import (
	"math"
	"slices"
	"strconv"
	"strings"
	"testing"

	"loop.example/g00773/impl"
)

// dirWords answers in the document's words, from what the tests know of names.
type dirWords struct {
	names nameWords
	keys  map[string]string // empty of what is no name
}

func newDirWords(t *testing.T) dirWords {
	return dirWords{newNameWords(t), map[string]string{}}
}

func (w dirWords) key(name string) string {
	key, seen := w.keys[name]
	if !seen {
		key, _ = w.names.key(name)
		w.keys[name] = key
	}
	return key
}

func (w dirWords) hash(name string) int { return crcBySteps(w.key(name)) % 16 }

func (w dirWords) alike(a, b string) bool { return w.key(a) != "" && w.key(a) == w.key(b) }

func isBehind(e impl.Ent, hash, index int) bool {
	return e.Hash > hash || e.Hash == hash && e.Index > index
}

func (w dirWords) ok(d []impl.Ent) bool {
	if len(d) > 12 {
		return false
	}
	for i, e := range d {
		if w.key(e.Name) == "" || e.Hash != w.hash(e.Name) || e.Index < 0 || e.Index > 12 || e.Id < 1 || e.Id > 100000 {
			return false
		}
		for _, f := range d[:i] {
			if !isBehind(e, f.Hash, f.Index) || w.alike(e.Name, f.Name) {
				return false
			}
		}
	}
	return true
}

func (w dirWords) look(d []impl.Ent, name string) (impl.Ent, bool) {
	for _, e := range d {
		if w.ok(d) && w.alike(e.Name, name) {
			return e, true
		}
	}
	return impl.Ent{}, false
}

func (w dirWords) add(d []impl.Ent, name string, id int) ([]impl.Ent, bool) {
	if !w.ok(d) {
		return nil, false
	}
	_, there := w.look(d, name)
	if w.key(name) == "" || there || id < 1 || id > 100000 || len(d) == 12 {
		return d, false
	}
	hash, index := w.hash(name), 0
	for slices.ContainsFunc(d, func(e impl.Ent) bool { return e.Hash == hash && e.Index == index }) {
		index++
	}
	var ahead, behind []impl.Ent
	for _, e := range d {
		if isBehind(e, hash, index) {
			behind = append(behind, e)
		} else {
			ahead = append(ahead, e)
		}
	}
	return slices.Concat(ahead, []impl.Ent{{Hash: hash, Index: index, Name: name, Id: id}}, behind), true
}

func (w dirWords) drop(d []impl.Ent, name string) ([]impl.Ent, bool) {
	if !w.ok(d) {
		return nil, false
	}
	var out []impl.Ent
	for _, e := range d {
		if !w.alike(e.Name, name) {
			out = append(out, e)
		}
	}
	return out, len(out) < len(d)
}

func (w dirWords) respell(d []impl.Ent, name string, id int) ([]impl.Ent, bool) {
	if !w.ok(d) {
		return nil, false
	}
	_, there := w.look(d, name)
	if !there || id < 1 || id > 100000 {
		return d, false
	}
	var out []impl.Ent
	for _, e := range d {
		if w.alike(e.Name, name) {
			e.Name, e.Id = name, id
		}
		out = append(out, e)
	}
	return out, true
}

func (w dirWords) next(d []impl.Ent, hash, index int) (impl.Ent, bool) {
	for _, e := range d {
		if w.ok(d) && isBehind(e, hash, index) {
			return e, true
		}
	}
	return impl.Ent{}, false
}

// ent is a right entry of a name.
func (w dirWords) ent(index int, name string, id int) impl.Ent {
	return impl.Ent{Hash: w.hash(name), Index: index, Name: name, Id: id}
}

// namesOf tells so many names of one hash, no two of them alike.
func (w dirWords) namesOf(hash, count int) []string {
	var out []string
	for i := 0; len(out) < count; i++ {
		if name := "n" + strconv.Itoa(i); w.hash(name) == hash {
			out = append(out, name)
		}
	}
	return out
}

// row has names of one hash, at indexes 0, 1 and so on.
func (w dirWords) row(hash, count int) []impl.Ent {
	var out []impl.Ent
	for i, name := range w.namesOf(hash, count) {
		out = append(out, w.ent(i, name, 10+i))
	}
	return out
}

// full is a right directory of 12 entries, with gaps between indexes and hashes with none.
func (w dirWords) full() []impl.Ent {
	var out []impl.Ent
	for _, x := range []struct {
		hash    int
		indexes []int
	}{{0, []int{0}}, {2, []int{0, 1, 3}}, {3, []int{2}}, {7, []int{0, 5, 12}}, {11, []int{1, 2}}, {15, []int{0, 12}}} {
		names := w.namesOf(x.hash, len(x.indexes))
		for i, index := range x.indexes {
			out = append(out, w.ent(index, names[i], 100*x.hash+i+1))
		}
	}
	return out
}

// likeRows are likeNames without a row that is spelled in one way alone.
func likeRows() [][]string {
	var out [][]string
	for _, row := range likeNames {
		if len(row) > 1 && row[0] != row[1] {
			out = append(out, row)
		}
	}
	return out
}

// likeDir has, of each of these rows, one spelling.
func (w dirWords) likeDir(rows [][]string, spelling int) []impl.Ent {
	var d []impl.Ent
	for i, row := range rows {
		d, _ = w.add(d, row[spelling%len(row)], 1+i)
	}
	return d
}

// notRight has a directory for each way to be not right, and all else in it is right.
func (w dirWords) notRight() map[string][]impl.Ent {
	two := w.namesOf(4, 2)
	out := map[string][]impl.Ent{
		"one too many":      w.row(5, 13),
		"many too many":     slices.Repeat(w.row(5, 12), 1000),
		"no name":           {{Hash: -1, Name: "", Id: 1}},
		"two points":        {{Hash: -1, Name: "..", Id: 1}},
		"a name too long":   {{Hash: -1, Name: strings.Repeat("a", 25), Id: 1}},
		"another hash":      {{Hash: (w.hash("a") + 1) % 16, Name: "a", Id: 1}},
		"the hash and 16":   {{Hash: w.hash("a") + 16, Name: "a", Id: 1}},
		"index -1":          {w.ent(-1, "a", 1)},
		"index 13":          {w.ent(13, "a", 1)},
		"id 0":              {w.ent(0, "a", 0)},
		"id -1":             {w.ent(0, "a", -1)},
		"id 100001":         {w.ent(0, "a", 100001)},
		"indexes fall":      {w.ent(1, two[0], 1), w.ent(0, two[1], 2)},
		"hashes fall":       append(w.row(9, 1), w.row(8, 1)...),
		"hashes fall later": slices.Concat(w.row(1, 2), w.row(9, 2), w.row(8, 1), w.row(10, 1)),
		"one place twice":   {w.ent(3, two[0], 1), w.ent(3, two[1], 2)},
		"one entry twice":   {w.ent(3, two[0], 1), w.ent(3, two[0], 1)},
		"alike":             {w.ent(0, two[0], 1), w.ent(1, strings.ToUpper(two[0]), 2)},
		"alike far off":     {w.ent(0, two[0], 1), w.ent(5, two[1], 2), w.ent(9, strings.ToUpper(two[0]), 3)},
		"the zero entry":    {{}},
	}
	return out
}

const leftName = "left as it was"

// roomy has d with room behind it, and tells whether both are as they were.
func roomy(d []impl.Ent) ([]impl.Ent, func() bool) {
	all := slices.Clone(d)
	for i := range 15 {
		all = append(all, impl.Ent{Hash: -7, Index: -i, Name: leftName, Id: -7})
	}
	before := slices.Clone(all)
	return all[:len(d)], func() bool { return slices.Equal(all, before) }
}

// wantList asks an answer that is a list, that what was given is left, and that they share nothing.
func wantList(t *testing.T, what string, d []impl.Ent, ask func([]impl.Ent) ([]impl.Ent, bool), want []impl.Ent, wantOk bool) {
	t.Helper()
	want = slices.Clone(want)
	given, left := roomy(d)
	got, ok := ask(given)
	if ok != wantOk || !slices.Equal(got, want) {
		t.Errorf("%s of %#v = %#v, %v, want %#v, %v", what, d, got, ok, want, wantOk)
	}
	for i := range got[:cap(got)] {
		got[:cap(got)][i] = impl.Ent{Hash: -9}
	}
	if !left() {
		t.Errorf("%s of %#v: what it was given is changed, or shared", what, d)
	}
	for i := range given[:cap(given)] {
		given[:cap(given)][i] = impl.Ent{Hash: -8}
	}
	for _, e := range got {
		if e != (impl.Ent{Hash: -9}) {
			t.Errorf("%s of %#v: the answer is changed with what was given", what, d)
		}
	}
}

func wantEnt(t *testing.T, what string, d []impl.Ent, ask func([]impl.Ent) (impl.Ent, bool), want impl.Ent, wantOk bool) {
	t.Helper()
	given, left := roomy(d)
	if got, ok := ask(given); ok != wantOk || got != want {
		t.Errorf("%s of %#v = %#v, %v, want %#v, %v", what, d, got, ok, want, wantOk)
	}
	if !left() {
		t.Errorf("%s of %#v: what it was given is changed", what, d)
	}
}

func wantDirOk(t *testing.T, why string, d []impl.Ent, want bool) {
	t.Helper()
	given, left := roomy(d)
	if got := impl.DirOk(given); got != want {
		t.Errorf("DirOk(%#v) = %v (%s)", d, got, why)
	}
	if !left() {
		t.Errorf("DirOk(%#v): what it was given is changed", d)
	}
}

func wantLook(t *testing.T, d []impl.Ent, name string, want impl.Ent, wantOk bool) {
	t.Helper()
	wantEnt(t, "Look for "+strconv.Quote(name), d, func(d []impl.Ent) (impl.Ent, bool) { return impl.Look(d, name) }, want, wantOk)
}

func wantNext(t *testing.T, d []impl.Ent, hash, index int, want impl.Ent, wantOk bool) {
	t.Helper()
	what := "Next behind " + strconv.Itoa(hash) + ", " + strconv.Itoa(index)
	wantEnt(t, what, d, func(d []impl.Ent) (impl.Ent, bool) { return impl.Next(d, hash, index) }, want, wantOk)
}

func wantAdd(t *testing.T, d []impl.Ent, name string, id int, want []impl.Ent, wantOk bool) {
	t.Helper()
	what := "Add(" + strconv.Quote(name) + ", " + strconv.Itoa(id) + ")"
	wantList(t, what, d, func(d []impl.Ent) ([]impl.Ent, bool) { return impl.Add(d, name, id) }, want, wantOk)
}

func wantDrop(t *testing.T, d []impl.Ent, name string, want []impl.Ent, wantOk bool) {
	t.Helper()
	wantList(t, "Drop("+strconv.Quote(name)+")", d, func(d []impl.Ent) ([]impl.Ent, bool) { return impl.Drop(d, name) }, want, wantOk)
}

func wantRespell(t *testing.T, d []impl.Ent, name string, id int, want []impl.Ent, wantOk bool) {
	t.Helper()
	what := "Respell(" + strconv.Quote(name) + ", " + strconv.Itoa(id) + ")"
	wantList(t, what, d, func(d []impl.Ent) ([]impl.Ent, bool) { return impl.Respell(d, name, id) }, want, wantOk)
}

// wantWords asks all that takes a name, as the words have it.
func wantWords(t *testing.T, w dirWords, d []impl.Ent, name string, id int) {
	t.Helper()
	e, found := w.look(d, name)
	wantLook(t, d, name, e, found)
	more, added := w.add(d, name, id)
	wantAdd(t, d, name, id, more, added)
	less, dropped := w.drop(d, name)
	wantDrop(t, d, name, less, dropped)
	anew, spelled := w.respell(d, name, id)
	wantRespell(t, d, name, id, anew, spelled)
	for _, after := range [][]impl.Ent{more, less, anew} {
		if w.ok(d) {
			wantDirOk(t, "a right one stays right", after, true)
		}
	}
}

func TestDirConstants(t *testing.T) {
	if impl.MaxEnts != 12 || impl.MaxId != 100000 {
		t.Error(impl.MaxEnts, impl.MaxId)
	}
}

func TestDirOkOfRightOnes(t *testing.T) {
	w := newDirWords(t)
	wantDirOk(t, "nil", nil, true)
	wantDirOk(t, "empty", []impl.Ent{}, true)
	for hash := range 16 {
		for n := range 13 {
			wantDirOk(t, "a row of one hash", w.row(hash, n), true)
		}
	}
	full := w.full()
	for n := range full {
		wantDirOk(t, "one", full[n:n+1], true)
		wantDirOk(t, "the first ones", full[:n], true)
		wantDirOk(t, "the last ones", full[n:], true)
		wantDirOk(t, "one lacks", slices.Delete(slices.Clone(full), n, n+1), true)
	}
	wantDirOk(t, "full", full, true)
	rows := likeRows()
	for from := 0; from < len(rows); from += 12 {
		for spelling := range 4 {
			wantDirOk(t, "names of all kinds", w.likeDir(rows[from:min(from+12, len(rows))], spelling), true)
		}
	}
	wantDirOk(t, "one id for two names", []impl.Ent{w.ent(0, w.namesOf(1, 1)[0], 5), w.ent(0, w.namesOf(2, 1)[0], 5)}, true)
}

func TestDirOkOfEachWayToBeNotRight(t *testing.T) {
	w := newDirWords(t)
	for why, d := range w.notRight() {
		if w.ok(d) {
			t.Error("a right directory among the others:", why)
		}
		wantDirOk(t, why, d, false)
	}
}

func TestDirOkByCount(t *testing.T) {
	w := newDirWords(t)
	for n := range 30 {
		wantDirOk(t, "by count", w.row(6, n), n <= 12)
	}
	full := w.full()
	var last []impl.Ent
	for i, name := range append(w.namesOf(0, 4)[1:], w.namesOf(15, 4)[2:]...) {
		last = append(last, w.ent(4+i, name, 1))
	}
	for _, e := range last {
		d := append(slices.Clone(full), e)
		slices.SortFunc(d, func(a, b impl.Ent) int { return 100*(a.Hash-b.Hash) + a.Index - b.Index })
		wantDirOk(t, "13 of several hashes", d, false)
		wantDirOk(t, "12 of several hashes", slices.DeleteFunc(d, func(x impl.Ent) bool { return x == full[5] }), true)
	}
}

// wantFieldOk puts in turn each entry of a full directory, changed, and asks whether all is right then.
func wantFieldOk(t *testing.T, w dirWords, why string, change func(*impl.Ent), want func(impl.Ent) bool) {
	t.Helper()
	for i, e := range w.full() {
		d := w.full()
		change(&d[i])
		wantDirOk(t, why, d, want(e))
		wantDirOk(t, why+", alone", d[i:i+1], want(e))
	}
}

func TestDirOkByName(t *testing.T) {
	w := newDirWords(t)
	never := func(impl.Ent) bool { return false }
	for _, bad := range append([]string{"\xc3", strings.Repeat("\xc3\xa5", 13)}, badNames...) {
		wantFieldOk(t, w, "no name", func(e *impl.Ent) { e.Name = bad }, never)
		wantFieldOk(t, w, "no name, no hash", func(e *impl.Ent) { e.Name, e.Hash = bad, -1 }, never)
		for hash := range 16 {
			wantDirOk(t, "no name", []impl.Ent{{Hash: hash, Name: bad, Id: 1}}, false)
		}
	}
	always := func(impl.Ent) bool { return true }
	wantFieldOk(t, w, "another spelling", func(e *impl.Ent) { e.Name = strings.ToUpper(e.Name) }, always)
	for _, s := range []string{strings.Repeat("\xc3\x85", 12), strings.Repeat("\xed\x9e\xa3", 8), "...", " ", "\xcc\x81"} {
		wantDirOk(t, "a name at the edges", []impl.Ent{w.ent(0, s, 1)}, true)
	}
}

func TestDirOkByHash(t *testing.T) {
	w := newDirWords(t)
	hashes := []int{math.MinInt, -1 << 32, -17, -16, -2, -1, 16, 17, 31, 32, 1 << 32, math.MaxInt}
	for hash := range 16 {
		hashes = append(hashes, hash)
	}
	for _, name := range []string{"a", "File", "\xc3\x85", "\xe2\x84\xab", strings.Repeat("\xc3\x9f", 12)} {
		for _, hash := range hashes {
			wantDirOk(t, "hash", []impl.Ent{{Hash: hash, Name: name, Id: 1}}, hash == w.hash(name))
		}
	}
	for _, e := range w.full() {
		for step := 1; step < 16; step++ {
			other := e
			other.Hash = (e.Hash + step) % 16
			wantDirOk(t, "another hash", []impl.Ent{other}, false)
		}
	}
	wantFieldOk(t, w, "hash 16 above", func(e *impl.Ent) { e.Hash += 16 }, func(impl.Ent) bool { return false })
}

func TestDirOkByIndex(t *testing.T) {
	w := newDirWords(t)
	for index := -30; index <= 40; index++ {
		wantDirOk(t, "index", []impl.Ent{w.ent(index, "a", 1)}, 0 <= index && index <= 12)
	}
	for _, index := range []int{math.MinInt, math.MinInt + 12, -1 << 32, 1 << 32, 1<<32 + 1, math.MaxInt} {
		wantDirOk(t, "index", []impl.Ent{w.ent(index, "a", 1)}, false)
	}
	for _, index := range []int{-1, 13} {
		wantFieldOk(t, w, "index out of range", func(e *impl.Ent) { e.Index = index }, func(impl.Ent) bool { return false })
	}
	two := w.namesOf(13, 2)
	wantDirOk(t, "0 and 12", []impl.Ent{w.ent(0, two[0], 1), w.ent(12, two[1], 1)}, true)
	wantDirOk(t, "-1 and 12", []impl.Ent{w.ent(-1, two[0], 1), w.ent(12, two[1], 1)}, false)
	wantDirOk(t, "0 and 13", []impl.Ent{w.ent(0, two[0], 1), w.ent(13, two[1], 1)}, false)
}

func TestDirOkById(t *testing.T) {
	w := newDirWords(t)
	for _, id := range []int{math.MinInt, -100000, -1, 0, 1, 2, 99999, 100000, 100001, 1 << 32, 1<<32 + 1, math.MaxInt} {
		wantFieldOk(t, w, "id", func(e *impl.Ent) { e.Id = id }, func(impl.Ent) bool { return 1 <= id && id <= 100000 })
	}
}

func TestDirOkByOrder(t *testing.T) {
	w := newDirWords(t)
	for _, right := range [][]impl.Ent{w.full(), w.row(3, 12), slices.Concat(w.row(0, 6), w.row(15, 6))} {
		for i := range right {
			for j := range i {
				d := slices.Clone(right)
				d[i], d[j] = d[j], d[i]
				wantDirOk(t, "two have changed places", d, false)
			}
			wantDirOk(t, "the first ones come last", slices.Concat(right[i:], right[:i]), i == 0)
		}
		slices.Reverse(right)
		wantDirOk(t, "the wrong way round", right, false)
	}
}

func TestDirOkOnePlaceTwice(t *testing.T) {
	w := newDirWords(t)
	names := w.namesOf(9, 12)
	for i := range 12 {
		for j := range i {
			d := w.row(9, 12)
			d[i].Index = j
			wantDirOk(t, "one index twice, far off", d, false)
			wantDirOk(t, "one index twice, side by side", []impl.Ent{w.ent(i, names[i], 1), w.ent(i, names[j], 2)}, false)
		}
	}
	d := slices.Concat(w.row(2, 3), w.row(3, 3))
	wantDirOk(t, "one index in two hashes", d, true)
	wantDirOk(t, "one entry twice", slices.Insert(d, 1, d[0]), false)
}

func TestDirOkAlikeNames(t *testing.T) {
	w := newDirWords(t)
	for _, row := range likeNames {
		for _, a := range row {
			for _, b := range row {
				wantDirOk(t, "alike, side by side", []impl.Ent{w.ent(0, a, 1), w.ent(1, b, 2)}, false)
				between := w.namesOf(w.hash(a), 1)[0]
				wantDirOk(t, "alike, one between", []impl.Ent{w.ent(0, a, 1), w.ent(4, between, 2), w.ent(12, b, 3)}, false)
			}
		}
	}
	right := w.row(14, 12)
	for i := range right {
		for j := range i {
			d := slices.Clone(right)
			d[i].Name = strings.ToUpper(d[j].Name)
			wantDirOk(t, "alike in a full one", d, false)
		}
	}
}

func TestLookByEachSpelling(t *testing.T) {
	w := newDirWords(t)
	rows := likeRows()
	for from := 0; from < len(rows); from += 12 {
		some := rows[from:min(from+12, len(rows))]
		for spelling := range 3 {
			d := w.likeDir(some, spelling)
			for _, row := range some {
				want := impl.Ent{}
				for _, e := range d {
					if slices.Contains(row, e.Name) {
						want = e
					}
				}
				for _, name := range row {
					wantLook(t, d, name, want, true)
				}
			}
		}
	}
	long := []impl.Ent{w.ent(2, strings.Repeat("\xc3\x85", 12), 9)}
	wantLook(t, long, strings.Repeat("\xc3\xa5", 12), long[0], true)
	wantLook(t, long, strings.Repeat("a\xcc\x8a", 12), impl.Ent{}, false) // alike it would be, but it is too long
	wantLook(t, long, strings.Repeat("\xc3\xa5", 11), impl.Ent{}, false)
}

func TestLookForWhatIsNotThere(t *testing.T) {
	w := newDirWords(t)
	rows := likeRows()
	d := w.likeDir(rows[:12], 1)
	for _, row := range rows[12:] {
		for _, name := range row {
			wantLook(t, d, name, impl.Ent{}, false)
			wantLook(t, nil, name, impl.Ent{}, false)
		}
	}
	for hash := range 16 {
		for _, name := range w.namesOf(hash, 20) {
			e, found := w.look(w.full(), name)
			wantLook(t, w.full(), name, e, found)
			wantLook(t, w.full(), name+" ", impl.Ent{}, false)
		}
	}
	for _, bad := range badNames {
		wantLook(t, d, bad, impl.Ent{}, false)
		wantLook(t, w.full(), bad, impl.Ent{}, false)
		wantLook(t, nil, bad, impl.Ent{}, false)
	}
}

func TestAddIntoTheEmptyDirectory(t *testing.T) {
	w := newDirWords(t)
	for _, row := range likeNames {
		for _, name := range row {
			want := []impl.Ent{{Hash: w.hash(name), Index: 0, Name: name, Id: 77}}
			wantAdd(t, nil, name, 77, want, true)
			wantAdd(t, []impl.Ent{}, name, 77, want, true)
		}
	}
}

func TestAddInFrontBetweenAndBehind(t *testing.T) {
	w := newDirWords(t)
	name := func(hash int) string { return w.namesOf(hash, 1)[0] }
	low, mid, high := w.ent(0, name(4), 1), w.ent(0, name(8), 2), w.ent(0, name(12), 3)
	d := []impl.Ent{low, mid, high}
	for hash := range 16 {
		e := w.ent(0, name(hash), 4)
		switch {
		case hash < 4:
			wantAdd(t, d, e.Name, 4, []impl.Ent{e, low, mid, high}, true)
		case 4 < hash && hash < 8:
			wantAdd(t, d, e.Name, 4, []impl.Ent{low, e, mid, high}, true)
		case 8 < hash && hash < 12:
			wantAdd(t, d, e.Name, 4, []impl.Ent{low, mid, e, high}, true)
		case 12 < hash:
			wantAdd(t, d, e.Name, 4, []impl.Ent{low, mid, high, e}, true)
		}
	}
	for _, hash := range []int{4, 8, 12} {
		wantWords(t, w, d, w.namesOf(hash, 2)[1], 4)
	}
}

func TestAddLeastIndex(t *testing.T) {
	w := newDirWords(t)
	const hash = 6
	names := w.namesOf(hash, 14)
	for set := range 1 << 13 {
		var d []impl.Ent
		least := -1
		for index := range 13 {
			if set>>index&1 == 1 {
				d = append(d, w.ent(index, names[index], 5))
			} else if least < 0 {
				least = index
			}
		}
		if len(d) > 11 {
			continue
		}
		got, ok := impl.Add(d, names[13], 8)
		if e, found := impl.Look(got, names[13]); !ok || !found || e != w.ent(least, names[13], 8) || len(got) != len(d)+1 || !w.ok(got) {
			t.Fatalf("Add to indexes %b: %v, %v", set, got, ok)
		}
		others, _ := impl.Drop(got, names[13])
		if !slices.Equal(others, d) {
			t.Fatalf("Add to indexes %b: others are changed: %v", set, got)
		}
	}
}

func TestAddLeastIndexBesideOtherHashes(t *testing.T) {
	w := newDirWords(t)
	d := slices.Concat(w.row(5, 3), w.row(6, 2), w.row(7, 3))
	five, six, seven := w.namesOf(5, 4)[3], w.namesOf(6, 3)[2], w.namesOf(7, 4)[3]
	wantAdd(t, d, five, 9, slices.Concat(d[:3], []impl.Ent{w.ent(3, five, 9)}, d[3:]), true)
	wantAdd(t, d, six, 9, slices.Concat(d[:5], []impl.Ent{w.ent(2, six, 9)}, d[5:]), true)
	wantAdd(t, d, seven, 9, slices.Concat(d, []impl.Ent{w.ent(3, seven, 9)}), true)
	eight := w.namesOf(8, 1)[0]
	wantAdd(t, d, eight, 9, slices.Concat(d, []impl.Ent{w.ent(0, eight, 9)}), true)
	gap := []impl.Ent{w.ent(1, w.namesOf(5, 1)[0], 1), w.ent(1, w.namesOf(6, 1)[0], 2), w.ent(12, w.namesOf(7, 1)[0], 3)}
	for _, hash := range []int{4, 5, 6, 7, 8} {
		name := w.namesOf(hash, 2)[1]
		want, ok := w.add(gap, name, 4)
		if e, _ := w.look(want, name); !ok || e.Index != 0 {
			t.Error("the words", want)
		}
		wantAdd(t, gap, name, 4, want, true)
	}
}

func TestAddTakesTheGapOfADrop(t *testing.T) {
	w := newDirWords(t)
	const hash = 10
	d := w.row(hash, 12)
	for i, e := range d {
		less, ok := impl.Drop(d, e.Name)
		if !ok {
			t.Error("Drop", e)
		}
		name := w.namesOf(hash, 13)[12]
		want := slices.Clone(d)
		want[i] = w.ent(i, name, 4)
		wantAdd(t, less, name, 4, want, true)
	}
	for i := range d {
		for j := range i {
			less, _ := impl.Drop(d, d[i].Name)
			less, _ = impl.Drop(less, d[j].Name)
			more, _ := impl.Add(less, d[i].Name, 3)
			if e, ok := impl.Look(more, d[i].Name); !ok || e.Index != j {
				t.Errorf("without %d and %d the least index is not taken: %v", i, j, e)
			}
		}
	}
}

func TestAddOneHashUntilItIsFull(t *testing.T) {
	w := newDirWords(t)
	for hash := range 16 {
		names := w.namesOf(hash, 13)
		var d []impl.Ent
		for i, name := range names[:12] {
			want := append(slices.Clone(d), w.ent(i, name, 1+i))
			wantAdd(t, d, name, 1+i, want, true)
			d = want
		}
		wantAdd(t, d, names[12], 1, d, false)
	}
}

func TestAddOfAnAlikeName(t *testing.T) {
	w := newDirWords(t)
	for _, row := range likeNames {
		for _, name := range row {
			d := []impl.Ent{w.ent(3, name, 5)}
			for _, other := range row {
				wantAdd(t, d, other, 6, d, false)
				wantAdd(t, d, other, 0, d, false)
			}
		}
	}
	full := w.full()
	for _, e := range full {
		wantAdd(t, full, strings.ToUpper(e.Name), 6, full, false)
	}
}

func TestAddOfNoName(t *testing.T) {
	w := newDirWords(t)
	d := w.full()[:5]
	for _, bad := range append([]string{strings.Repeat("a", 1000)}, badNames...) {
		wantAdd(t, nil, bad, 1, nil, false)
		wantAdd(t, d, bad, 1, d, false)
		wantAdd(t, w.full(), bad, 1, w.full(), false)
		wantAdd(t, d, bad, 0, d, false)
	}
}

func TestAddAndRespellById(t *testing.T) {
	w := newDirWords(t)
	d := w.full()[:7]
	name := w.namesOf(9, 1)[0]
	for _, id := range []int{math.MinInt, -1, 0, 1, 2, 99999, 100000, 100001, 1<<32 + 1, math.MaxInt} {
		right := 1 <= id && id <= 100000
		if right {
			wantAdd(t, nil, name, id, []impl.Ent{w.ent(0, name, id)}, true)
		} else {
			wantAdd(t, nil, name, id, nil, false)
		}
		wantWords(t, w, d, name, id)
		for i, e := range d {
			want := slices.Clone(d)
			if right {
				want[i].Id = id
			}
			wantRespell(t, d, e.Name, id, want, right)
		}
	}
}

func TestAddByCount(t *testing.T) {
	w := newDirWords(t)
	full := w.full()
	for hash := range 16 {
		name := w.namesOf(hash, 4)[3]
		wantAdd(t, full, name, 1, full, false)
		for i := range full {
			less := slices.Delete(slices.Clone(full), i, i+1)
			want, ok := w.add(less, name, 1)
			if !ok || len(want) != 12 {
				t.Error("the words", want)
			}
			wantAdd(t, less, name, 1, want, true)
		}
	}
}

func TestDropEach(t *testing.T) {
	w := newDirWords(t)
	for _, d := range [][]impl.Ent{w.full(), w.row(1, 12), w.row(1, 1)} {
		for i, e := range d {
			want := slices.Concat(d[:i], d[i+1:])
			for _, name := range []string{e.Name, strings.ToUpper(e.Name)} {
				wantDrop(t, d, name, want, true)
				wantLook(t, want, name, impl.Ent{}, false)
				wantDrop(t, want, name, want, false)
			}
		}
	}
	rows := likeRows()
	for from := 0; from < len(rows); from += 12 {
		some := rows[from:min(from+12, len(rows))]
		d := w.likeDir(some, 1)
		for _, row := range some {
			for _, name := range row {
				want, ok := w.drop(d, name)
				if !ok {
					t.Error("the words", name)
				}
				wantDrop(t, d, name, want, true)
			}
		}
	}
}

func TestDropOfWhatIsNotThere(t *testing.T) {
	w := newDirWords(t)
	full := w.full()
	for hash := range 16 {
		name := w.namesOf(hash, 4)[3]
		wantDrop(t, full, name, full, false)
		wantDrop(t, nil, name, nil, false)
		wantDrop(t, []impl.Ent{}, name, nil, false)
	}
	for _, bad := range badNames {
		wantDrop(t, full, bad, full, false)
		wantDrop(t, nil, bad, nil, false)
	}
}

func TestRespellEach(t *testing.T) {
	w := newDirWords(t)
	rows := likeRows()
	for from := 0; from < len(rows); from += 12 {
		some := rows[from:min(from+12, len(rows))]
		d := w.likeDir(some, 0)
		for i, e := range d {
			for _, row := range some {
				if !slices.Contains(row, e.Name) {
					continue
				}
				for _, name := range row {
					for _, id := range []int{e.Id, 1, 4321, 100000} {
						want := slices.Clone(d)
						want[i] = impl.Ent{Hash: e.Hash, Index: e.Index, Name: name, Id: id}
						wantRespell(t, d, name, id, want, true)
					}
				}
			}
		}
	}
	full := w.full()
	for i, e := range full {
		want := slices.Clone(full)
		want[i].Name, want[i].Id = strings.ToUpper(e.Name), 5
		wantRespell(t, full, strings.ToUpper(e.Name), 5, want, true)
	}
}

func TestRespellOfWhatIsNotThere(t *testing.T) {
	w := newDirWords(t)
	full := w.full()
	for _, id := range []int{0, 1, 100000, 100001} {
		for hash := range 16 {
			name := w.namesOf(hash, 4)[3]
			wantRespell(t, full, name, id, full, false)
			wantRespell(t, nil, name, id, nil, false)
		}
		for _, bad := range badNames {
			wantRespell(t, full, bad, id, full, false)
			wantRespell(t, nil, bad, id, nil, false)
		}
	}
}

func TestNextFromEachPlace(t *testing.T) {
	w := newDirWords(t)
	numbers := []int{math.MinInt, math.MinInt + 1, -1 << 32, 1 << 32, math.MaxInt - 1, math.MaxInt}
	for n := -2; n <= 17; n++ {
		numbers = append(numbers, n)
	}
	for _, d := range [][]impl.Ent{nil, w.row(0, 1), w.row(15, 12), w.full(), w.full()[1:5]} {
		for _, hash := range numbers {
			for _, index := range numbers {
				want, ok := w.next(d, hash, index)
				wantNext(t, d, hash, index, want, ok)
			}
		}
	}
}

func TestNextGoesThroughInOrder(t *testing.T) {
	w := newDirWords(t)
	for _, d := range [][]impl.Ent{nil, w.row(0, 1), w.row(0, 12), w.row(15, 12), w.full()} {
		hash, index := -1, -1
		for _, want := range d {
			wantNext(t, d, hash, index, want, true)
			hash, index = want.Hash, want.Index
		}
		wantNext(t, d, hash, index, impl.Ent{}, false)
	}
}

func TestDirectoriesThatAreNotRight(t *testing.T) {
	w := newDirWords(t)
	for _, d := range w.notRight() {
		names := []string{"a", "A", "b", "", "..", strings.Repeat("a", 25)}
		for _, e := range d[:min(len(d), 13)] {
			names = append(names, e.Name, strings.ToUpper(e.Name))
		}
		for _, name := range names {
			wantLook(t, d, name, impl.Ent{}, false)
			wantDrop(t, d, name, nil, false)
			for _, id := range []int{0, 1, 100000, 100001} {
				wantAdd(t, d, name, id, nil, false)
				wantRespell(t, d, name, id, nil, false)
			}
		}
		for _, hash := range []int{math.MinInt, -2, -1, 0, 4, 15, math.MaxInt} {
			wantNext(t, d, hash, -1, impl.Ent{}, false)
		}
	}
}

func TestDirectoriesByTheWords(t *testing.T) {
	w := newDirWords(t)
	rows := likeRows()
	for from := 0; from < len(rows); from += 9 {
		some := rows[from:min(from+9, len(rows))]
		for _, d := range [][]impl.Ent{nil, w.likeDir(some, 0), w.likeDir(some[1:], 1), w.row(3, 11), w.full()} {
			for _, row := range rows {
				for _, name := range row[:min(len(row), 3)] {
					wantWords(t, w, d, name, 50)
				}
			}
		}
	}
}

// A steady row of numbers: each run of the tests asks the same.
type steady struct{ at uint64 }

func (s *steady) below(n int) int {
	s.at = s.at*6364136223846793005 + 1442695040888963407
	return int((s.at >> 33) % uint64(n))
}

func TestDirectoriesChangedForLong(t *testing.T) {
	w := newDirWords(t)
	var names []string
	for _, row := range likeNames[:22] {
		names = append(names, row...)
	}
	names = append(names, badNames...)
	for _, name := range w.namesOf(7, 5) {
		names = append(names, name, strings.ToUpper(name))
	}
	s := steady{1}
	var d []impl.Ent
	for range 4000 {
		name := names[s.below(len(names))]
		id := []int{0, 1, 2, 50, 100000, 100001}[s.below(6)]
		want, wantOk := []impl.Ent(nil), false
		switch s.below(5) {
		case 0, 1:
			want, wantOk = w.add(d, name, id)
			wantAdd(t, d, name, id, want, wantOk)
		case 2:
			want, wantOk = w.drop(d, name)
			wantDrop(t, d, name, want, wantOk)
		case 3:
			want, wantOk = w.respell(d, name, id)
			wantRespell(t, d, name, id, want, wantOk)
		case 4:
			e, found := w.look(d, name)
			wantLook(t, d, name, e, found)
			continue
		}
		d = want
		wantDirOk(t, "a right one stays right", d, true)
	}
}

// A visit is somebody who goes through a directory, and what the promise says of it. Lives are numbered: each Add begins one, each Drop ends one.
type visit struct {
	t           *testing.T
	d           []impl.Ent
	hash, index int
	life        map[string]int // of each key that is there
	lives       int
	old         int // lives below this one were there when it began
	met         map[int]bool
	story       string
}

func newVisit(t *testing.T, w dirWords, d []impl.Ent) visit {
	v := visit{t: t, d: d, hash: -1, index: -1, life: map[string]int{}, met: map[int]bool{}}
	for _, e := range d {
		v.life[w.key(e.Name)] = v.lives
		v.lives++
	}
	v.old = v.lives
	return v
}

func (v visit) fork() visit {
	life, met := map[string]int{}, map[int]bool{}
	for key, n := range v.life {
		life[key] = n
	}
	for n := range v.met {
		met[n] = true
	}
	v.life, v.met = life, met
	return v
}

// toggle drops what is there, by another spelling, and adds what is not.
func (v *visit) toggle(w dirWords, name string) {
	v.t.Helper()
	v.story += " toggle " + name
	ok := false
	if _, there := v.life[w.key(name)]; there {
		delete(v.life, w.key(name))
		v.d, ok = impl.Drop(v.d, strings.ToUpper(name))
	} else if len(v.d) < 12 {
		v.life[w.key(name)] = v.lives
		v.lives++
		v.d, ok = impl.Add(v.d, name, 1+v.lives)
	} else {
		v.d, ok = impl.Add(v.d, name, 1)
		ok = !ok
	}
	if !ok || len(v.d) != len(v.life) {
		v.t.Errorf("%s: %v", v.story, v.d)
	}
}

func (v *visit) respell(w dirWords, name string) {
	v.t.Helper()
	v.story += " respell " + name
	_, there := v.life[w.key(name)]
	after, ok := impl.Respell(v.d, name, 77)
	if ok != there || len(after) != len(v.d) {
		v.t.Errorf("%s: %v, %v", v.story, after, ok)
	}
	v.d = after
}

// step tells false at the end, where all that was there all the time was met.
func (v *visit) step(w dirWords) bool {
	v.t.Helper()
	v.story += " next"
	e, ok := impl.Next(v.d, v.hash, v.index)
	if !ok {
		for key, n := range v.life {
			if n < v.old && !v.met[n] {
				v.t.Errorf("%s: %q was there all the time, and not met", v.story, key)
			}
		}
		return false
	}
	n, there := v.life[w.key(e.Name)]
	if !there || v.met[n] || !slices.Contains(v.d, e) || !isBehind(e, v.hash, v.index) {
		v.t.Errorf("%s: met %v, in %v; met ahead of that: %v", v.story, e, v.d, v.met[n])
	}
	v.met[n] = true
	v.hash, v.index = e.Hash, e.Index
	return true
}

func TestGoThroughWhileItIsChanged(t *testing.T) {
	w := newDirWords(t)
	names := append(w.namesOf(5, 3), w.namesOf(4, 1)[0], w.namesOf(6, 1)[0])
	upper := strings.ToUpper(names[1])
	var change func(v visit, left int)
	change = func(v visit, left int) {
		if t.Failed() {
			return
		}
		if ahead := v.fork(); ahead.step(w) {
			if left > 0 {
				change(ahead, left-1)
			} else {
				for ahead.step(w) && !t.Failed() {
				}
			}
		}
		if left == 0 {
			return
		}
		for _, name := range names {
			changed := v.fork()
			changed.toggle(w, name)
			change(changed, left-1)
		}
		changed := v.fork()
		changed.respell(w, upper)
		change(changed, left-1)
	}
	first := w.ent(0, names[0], 1)
	for _, d := range [][]impl.Ent{
		nil,
		{first, w.ent(1, names[1], 2)},
		{first, w.ent(1, names[1], 2), w.ent(2, names[2], 3)},
		{w.ent(0, names[3], 4), w.ent(0, names[1], 2), w.ent(3, names[0], 1), w.ent(7, names[4], 5)},
	} {
		change(newVisit(t, w, d), 5)
	}
}

func TestGoThroughAFullOneWhileItIsChanged(t *testing.T) {
	w := newDirWords(t)
	var names []string
	for _, hash := range []int{0, 7, 8, 15} {
		names = append(names, w.namesOf(hash, 5)...)
	}
	s := steady{5}
	v := newVisit(t, w, nil)
	for range 1500 {
		v = newVisit(t, w, v.d)
		for v.step(w) && !t.Failed() {
			for range s.below(4) {
				name := names[s.below(len(names))]
				if s.below(4) == 0 {
					v.respell(w, strings.ToUpper(name))
				} else {
					v.toggle(w, name)
				}
			}
		}
		v.toggle(w, names[s.below(len(names))])
	}
}

func TestRespellStaysWhereItIsMet(t *testing.T) {
	w := newDirWords(t)
	full := w.full()
	for i, e := range full {
		for _, respelled := range full {
			d, ok := impl.Respell(full, strings.ToUpper(respelled.Name), 9)
			if !ok {
				t.Error("Respell", respelled)
			}
			got, ok := impl.Next(d, e.Hash, e.Index)
			if i == len(full)-1 {
				if ok {
					t.Errorf("Next behind the last one: %v", got)
				}
				continue
			}
			if want := full[i+1]; !ok || got.Hash != want.Hash || got.Index != want.Index || !w.alike(got.Name, want.Name) {
				t.Errorf("Next behind %v: %v, where %v is spelled anew", e, got, respelled)
			}
		}
	}
}
