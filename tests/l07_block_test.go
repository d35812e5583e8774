package tests

import (
	"math"
	"slices"
	"strconv"
	"strings"
	"testing"
	"unsafe"

	"loop.example/g00773/impl"
)

// A blockPart is a number (its Var is written) or bytes; a number may count what follows it.
type blockPart struct {
	number bool
	counts bool
	n      int
	bytes  string
}

func numberPart(n int) blockPart { return blockPart{number: true, n: n} }

func countPart(n int) blockPart { return blockPart{number: true, counts: true, n: n} }

func bytesPart(s string) blockPart { return blockPart{bytes: s} }

// varText has nothing of a number below 0, which no Var can tell.
func varText(n int) string {
	switch {
	case n < 0:
		return ""
	case n < 128:
		return string([]byte{byte(n)})
	}
	return string([]byte{byte(n%128 + 128)}) + varText(n/128)
}

func (p blockPart) text() string {
	if p.number {
		return varText(p.n)
	}
	return p.bytes
}

func inodeParts(n impl.Inode) []blockPart {
	out := []blockPart{bytesPart("i"), numberPart(n.Id), numberPart(n.Kind), numberPart(n.Links), countPart(len(n.Data)), bytesPart(n.Data), countPart(len(n.Ents))}
	for _, e := range n.Ents {
		out = append(out, numberPart(e.Index), countPart(len(e.Name)), bytesPart(e.Name), numberPart(e.Id))
	}
	return out
}

// volParts has a row a block; of a volume that is not right too, as far as it can be written.
func volParts(v impl.Vol) [][]blockPart {
	out := [][]blockPart{{bytesPart("u"), numberPart(v.Next), countPart(len(v.Inodes))}}
	for _, n := range v.Inodes {
		out = append(out, inodeParts(n))
	}
	for len(out) < 17 {
		out = append(out, nil)
	}
	return out
}

func blockTexts(rows [][]blockPart) []string {
	var out []string
	for _, row := range rows {
		text := ""
		for _, p := range row {
			text += p.text()
		}
		out = append(out, text)
	}
	return out
}

func textsOfVol(v impl.Vol) []string { return blockTexts(volParts(v)) }

// blockReader takes numbers however they are written; it is lost once something lacks.
type blockReader struct {
	rest string
	lost bool
}

func (r *blockReader) number() int {
	n := 0
	for i := range min(len(r.rest), 7) {
		b := int(r.rest[i])
		n += b % 128 << (7 * i)
		if b < 128 {
			r.rest = r.rest[i+1:]
			return n
		}
	}
	r.lost = true
	return 0
}

func (r *blockReader) bytes(n int) string {
	if r.lost || n > len(r.rest) {
		r.lost = true
		return ""
	}
	out := r.rest[:n]
	r.rest = r.rest[n:]
	return out
}

// blockWords reads blocks in the document's words: a volume that is right, and of which these are written.
type blockWords struct{ volWords }

func newBlockWords(t *testing.T) blockWords { return blockWords{newVolWords(t)} }

func (w blockWords) readInode(text string) (impl.Inode, bool) {
	r := blockReader{rest: text}
	r.bytes(1)
	n := impl.Inode{Id: r.number(), Kind: r.number(), Links: r.number()}
	n.Data = r.bytes(r.number())
	for count := r.number(); count > 0 && !r.lost; count-- {
		e := impl.Ent{Index: r.number()}
		e.Name = r.bytes(r.number())
		e.Id = r.number()
		e.Hash = w.hash(e.Name)
		n.Ents = append(n.Ents, e)
	}
	return n, !r.lost
}

func (w blockWords) read(l []string) (impl.Vol, bool) {
	if len(l) != 17 {
		return impl.Vol{}, false
	}
	head := blockReader{rest: l[0]}
	head.bytes(1)
	v := impl.Vol{Next: head.number()}
	for _, text := range l[1:] {
		if text == "" {
			continue
		}
		n, whole := w.readInode(text)
		if !whole {
			return impl.Vol{}, false
		}
		v.Inodes = append(v.Inodes, n)
	}
	if head.lost || !w.ok(v) || !slices.Equal(textsOfVol(v), l) {
		return impl.Vol{}, false
	}
	return v, true
}

// deepVol has directories in directories, as many as there can be.
func deepVol() impl.Vol {
	v := impl.NewVol()
	for id := 1; id < 16; id++ {
		v, _ = impl.VolDo(v, callOf(impl.CaMkdir, id, "d"))
	}
	return v
}

// greatestVol has 16 inodes with the greatest Ids, 15 directories of 12 entries with names of 24 bytes, and a file of 20 bytes with 166 names.
func (w blockWords) greatestVol() impl.Vol {
	v := impl.Vol{Next: 100000, Inodes: []impl.Inode{{Id: 1, Kind: 2, Links: 1}}}
	for i := range 14 {
		v.Inodes = append(v.Inodes, impl.Inode{Id: 99985 + i, Kind: 2, Links: 1})
	}
	v.Inodes = append(v.Inodes, impl.Inode{Id: 99999, Kind: 1, Links: 166, Data: strings.Repeat("\xff", 20)})
	for i := range 15 {
		n := &v.Inodes[i]
		n.Ents, _ = w.add(nil, strings.Repeat("\xc3\x85", 12), v.Inodes[i+1].Id)
		for j := range 11 {
			n.Ents, _ = w.add(n.Ents, strings.Repeat("\xea\xb0\x81", 7)+"n"+strconv.Itoa(10+j), 99999)
		}
	}
	return v
}

// gapsVol has a full directory whose indexes and Ids have gaps, up to the greatest.
func (w blockWords) gapsVol() impl.Vol {
	v := impl.Vol{Next: 70000, Inodes: []impl.Inode{{Id: 1, Kind: 2, Links: 1}}}
	for i, e := range w.full() {
		e.Id = 2 + 1<<i*16
		v.Inodes = append(v.Inodes, impl.Inode{Id: e.Id, Kind: 1 + i%2, Links: 1})
		v.Inodes[0].Ents = append(v.Inodes[0].Ents, e)
	}
	return v
}

// twoNames is a volume with one file that has two names, in two directories.
func twoNames() impl.Vol {
	v := impl.NewVol()
	for _, c := range []impl.Call{callOf(impl.CaCreate, 1, "A"), writeOf(1, "a", "hi"), callOf(impl.CaMkdir, 1, "d"), linkOf(1, "a", 3, "\xc3\x85")} {
		v, _ = impl.VolDo(v, c)
	}
	return v
}

// plainVols has right volumes of which each part is gone through; the greatest one is not among them.
func (w blockWords) plainVols(t *testing.T) map[string]impl.Vol {
	return map[string]impl.Vol{
		"NewVol":                     impl.NewVol(),
		"files and directories":      sample(t, w.volWords),
		"directories in directories": deepVol(),
		"a file with two names":      twoNames(),
		"a full directory":           fullDir(t, w.volWords),
		"a full directory with gaps": w.gapsVol(),
		"all inodes":                 crowded(t, w.volWords, 16),
	}
}

// rightVols has right volumes of each kind that the promise is asked of.
func (w blockWords) rightVols(t *testing.T) map[string]impl.Vol {
	out := w.plainVols(t)
	out["all at its greatest"] = w.greatestVol()
	for count := 2; count < 16; count++ {
		out[strconv.Itoa(count)+" inodes"] = crowded(t, w.volWords, count)
	}
	for _, next := range []int{3, 127, 128, 16383, 16384, 99999, 100000} {
		v := impl.NewVol()
		v.Next = next
		out["Next "+strconv.Itoa(next)] = v
	}
	for _, size := range []int{0, 1, 19, 20} {
		for _, b := range []string{"\x00", "\x80", "i"} {
			v := twoNames()
			v.Inodes[1].Data = strings.Repeat(b, size)
			out["Data "+strconv.Quote(v.Inodes[1].Data)+strconv.Itoa(size)] = v
		}
	}
	for why, v := range out {
		if !w.ok(v) {
			t.Errorf("a volume that is not right among the others: %s", why)
		}
	}
	return out
}

// roomyTexts has l with room behind it, and tells whether both are as they were.
func roomyTexts(l []string) ([]string, func() bool) {
	all := slices.Clone(l)
	for range 20 {
		all = append(all, leftName)
	}
	before := slices.Clone(all)
	return all[:len(l)], func() bool { return slices.Equal(all, before) }
}

// spoilTexts writes over all memory of a list, the room behind it included.
func spoilTexts(l []string) {
	for i := range l[:cap(l)] {
		l[:cap(l)][i] = "written over"
	}
}

// loose is a text whose bytes can be written over, which shows who shares them.
func loose(s string) (string, []byte) {
	bytes := []byte(s)
	return unsafe.String(unsafe.SliceData(bytes), len(bytes)), bytes
}

// looseVol has v with texts that are written over by what it tells.
func looseVol(v impl.Vol) (impl.Vol, func()) {
	v = cloneVol(v)
	var all [][]byte
	loosen := func(s *string) {
		text, bytes := loose(*s)
		*s = text
		all = append(all, bytes)
	}
	for i := range v.Inodes {
		loosen(&v.Inodes[i].Data)
		for j := range v.Inodes[i].Ents {
			loosen(&v.Inodes[i].Ents[j].Name)
		}
	}
	return v, func() { overwrite(all) }
}

func looseTexts(l []string) ([]string, func()) {
	l = slices.Clone(l)
	var all [][]byte
	for i := range l {
		text, bytes := loose(l[i])
		l[i] = text
		all = append(all, bytes)
	}
	return l, func() { overwrite(all) }
}

func overwrite(all [][]byte) {
	for _, bytes := range all {
		for i := range bytes {
			bytes[i] ^= 0x55
		}
	}
}

// wantBlocks asks an answer of VolBlocks, that what was given is left, and that nothing is shared.
func wantBlocks(t *testing.T, why string, v impl.Vol, want []string) {
	t.Helper()
	given, left := roomyVol(v)
	got := impl.VolBlocks(given)
	if !slices.Equal(got, want) {
		t.Errorf("VolBlocks of %+v (%s)\n is   %q\n want %q", v, why, got, want)
		return
	}
	if !left() {
		t.Errorf("VolBlocks of %+v (%s): what it was given is changed", v, why)
	}
	spoil(given, -8)
	if !slices.Equal(got, want) {
		t.Errorf("VolBlocks of %+v (%s): the answer is changed with what was given", v, why)
	}
	again := impl.VolBlocks(v)
	spoilTexts(got)
	if !slices.Equal(again, want) || !slices.Equal(impl.VolBlocks(v), want) {
		t.Errorf("VolBlocks of %+v (%s): the answer is changed with an earlier one", v, why)
	}
	shown, writeOver := looseVol(v)
	got = impl.VolBlocks(shown)
	writeOver()
	if !slices.Equal(got, want) {
		t.Errorf("VolBlocks of %+v (%s): the texts of the answer share bytes with what was given", v, why)
	}
}

// wantRead asks an answer of ReadBlocks, that what was given is left, and that nothing is shared.
func wantRead(t *testing.T, why string, l []string, want impl.Vol, wantOk bool) {
	t.Helper()
	given, left := roomyTexts(l)
	got, ok := impl.ReadBlocks(given)
	if ok != wantOk || !sameVol(got, want) {
		t.Errorf("ReadBlocks of %.2000q (%s)\n is   %+v, %v\n want %+v, %v", l, why, got, ok, want, wantOk)
		return
	}
	if !left() {
		t.Errorf("ReadBlocks of %q (%s): what it was given is changed", l, why)
	}
	if !ok {
		return
	}
	if listsShare(got) {
		t.Errorf("ReadBlocks of %q (%s): two lists of the answer share memory", l, why)
	}
	spoilTexts(given)
	if !sameVol(got, want) {
		t.Errorf("ReadBlocks of %q (%s): the answer is changed with what was given", l, why)
	}
	again, _ := impl.ReadBlocks(l)
	spoil(got, -9)
	if last, _ := impl.ReadBlocks(l); !sameVol(again, want) || !sameVol(last, want) {
		t.Errorf("ReadBlocks of %q (%s): the answer is changed with an earlier one", l, why)
	}
	shown, writeOver := looseTexts(l)
	got, _ = impl.ReadBlocks(shown)
	writeOver()
	if !sameVol(got, want) {
		t.Errorf("ReadBlocks of %q (%s): the texts of the answer share bytes with what was given", l, why)
	}
}

func wantNotRead(t *testing.T, why string, l []string) {
	t.Helper()
	wantRead(t, why, l, impl.Vol{}, false)
}

// wantReadByWords asks an answer as the words have it, and promise 7 of it; it tells whether these are taken.
func (w blockWords) wantReadByWords(t *testing.T, why string, l []string) bool {
	t.Helper()
	want, wantOk := w.read(l)
	got, ok := impl.ReadBlocks(l)
	if ok != wantOk || !sameVol(got, want) {
		t.Errorf("ReadBlocks of %.2000q (%s)\n is   %+v, %v\n want %+v, %v", l, why, got, ok, want, wantOk)
	}
	if ok && !slices.Equal(impl.VolBlocks(got), l) {
		t.Errorf("ReadBlocks of %q (%s) = %+v, of which VolBlocks makes %q", l, why, got, impl.VolBlocks(got))
	}
	return ok
}

func withText(l []string, at int, text string) []string {
	l = slices.Clone(l)
	l[at] = text
	return l
}

// withPart has the blocks of v with another text in place of one part.
func withPart(rows [][]blockPart, row, at int, text string) []string {
	rows = slices.Clone(rows)
	rows[row] = slices.Clone(rows[row])
	rows[row][at] = bytesPart(text)
	return blockTexts(rows)
}

// eachPart hands over the places of all parts that fit.
func eachPart(rows [][]blockPart, fits func(blockPart) bool, do func(row, at int, p blockPart)) {
	for row, parts := range rows {
		for at, p := range parts {
			if fits(p) {
				do(row, at, p)
			}
		}
	}
}

func isNumber(p blockPart) bool { return p.number }

func isCount(p blockPart) bool { return p.counts }

func filled(l ...string) []string { return append(l, make([]string, 17-len(l))...) }

func TestBlockConstants(t *testing.T) {
	if impl.MaxBlock != 4000 || impl.Slots != 17 {
		t.Error(impl.MaxBlock, impl.Slots)
	}
}

// byHand are volumes and their blocks, written out.
func byHand(w blockWords) []struct {
	v      impl.Vol
	blocks []string
} {
	dir := func(id int, ents ...impl.Ent) impl.Inode { return impl.Inode{Id: id, Kind: 2, Links: 1, Ents: ents} }
	return []struct {
		v      impl.Vol
		blocks []string
	}{
		{impl.NewVol(), filled("u\x02\x01", "i\x01\x02\x01\x00\x00")},
		{impl.Vol{Next: 100000, Inodes: []impl.Inode{dir(1)}}, filled("u\xa0\x8d\x06\x01", "i\x01\x02\x01\x00\x00")},
		{
			impl.Vol{Next: 3, Inodes: []impl.Inode{dir(1, w.ent(0, "A", 2)), {Id: 2, Kind: 1, Links: 1, Data: "hi"}}},
			filled("u\x03\x02", "i\x01\x02\x01\x00\x01\x00\x01A\x02", "i\x02\x01\x01\x02hi\x00"),
		},
		{
			impl.Vol{Next: 301, Inodes: []impl.Inode{dir(1, w.ent(12, "up", 300)), dir(4), dir(300, w.ent(3, "\xc3\x85", 4))}},
			filled("u\xad\x02\x03", "i\x01\x02\x01\x00\x01\x0c\x02up\xac\x02", "i\x04\x02\x01\x00\x00", "i\xac\x02\x02\x01\x00\x01\x03\x02\xc3\x85\x04"),
		},
		{
			impl.Vol{Next: 9, Inodes: []impl.Inode{dir(1, w.ent(0, "FILE", 8)), {Id: 8, Kind: 1, Links: 1, Data: "\x00\x80\xffi u\x01\x02\x03\x04\x05\x06\x07\x08\x09\x0a\x0b\x0c\x0d\x0e"}}},
			filled("u\x09\x02", "i\x01\x02\x01\x00\x01\x00\x04FILE\x08", "i\x08\x01\x01\x14\x00\x80\xffi u\x01\x02\x03\x04\x05\x06\x07\x08\x09\x0a\x0b\x0c\x0d\x0e\x00"),
		},
	}
}

func TestBlocksByHand(t *testing.T) {
	for _, x := range byHand(newBlockWords(t)) {
		wantBlocks(t, "by hand", x.v, x.blocks)
		wantRead(t, "by hand", x.blocks, x.v, true)
	}
	// Entries stand in their order, whatever their names are.
	w := newBlockWords(t)
	names := w.namesOf(5, 2)
	v := impl.NewVol()
	v.Next = 3
	v.Inodes[0].Ents = []impl.Ent{w.ent(4, names[1], 2), w.ent(7, names[0], 2)}
	v.Inodes = append(v.Inodes, impl.Inode{Id: 2, Kind: 1, Links: 2})
	l := filled("u\x03\x02", "i\x01\x02\x01\x00\x02\x04"+pieceText(names[1])+"\x02\x07"+pieceText(names[0])+"\x02", "i\x02\x01\x02\x00\x00")
	wantBlocks(t, "two names", v, l)
	wantRead(t, "two names", l, v, true)
}

func pieceText(s string) string { return varText(len(s)) + s }

func TestBlocksOfRightVolumes(t *testing.T) {
	w := newBlockWords(t)
	for why, v := range w.rightVols(t) {
		l := textsOfVol(v)
		wantBlocks(t, why, v, l)
		wantRead(t, why, l, v, true)
		w.wantReadByWords(t, why, l)
	}
}

func TestBlocksAreAsManyAndEmptyWhereThereIsNothing(t *testing.T) {
	w := newBlockWords(t)
	for why, v := range w.rightVols(t) {
		l := impl.VolBlocks(v)
		if len(l) != 17 {
			t.Errorf("%s: %d blocks", why, len(l))
			continue
		}
		for i, text := range l {
			if (text == "") != (i > len(v.Inodes)) {
				t.Errorf("%s, with %d inodes: block %d is %q", why, len(v.Inodes), i, text)
			}
			if len(text) > impl.MaxBlock {
				t.Errorf("%s: block %d has %d bytes", why, i, len(text))
			}
		}
	}
}

func TestBlocksOfTheGreatestVolume(t *testing.T) {
	w := newBlockWords(t)
	v := w.greatestVol()
	if len(v.Inodes) != impl.MaxInodes || len(v.Inodes[15].Data) != impl.MaxData {
		t.Fatal("not the greatest", v)
	}
	for _, n := range v.Inodes[:15] {
		if len(n.Ents) != impl.MaxEnts || len(n.Ents[0].Name) != impl.MaxName {
			t.Fatal("not the greatest", n)
		}
	}
	l := impl.VolBlocks(v)
	if l[0] != "u\xa0\x8d\x06\x10" || l[16] != "i\x9f\x8d\x06\x01\xa6\x01\x14"+v.Inodes[15].Data+"\x00" {
		t.Errorf("%q, %q", l[0], l[16])
	}
	for i, text := range l[1:16] {
		// Twelve times an index, a name with its length, and an Id of three bytes.
		if ahead := len("i") + len(varText(v.Inodes[i].Id)) + 4; len(text) != ahead+12*(1+1+24+3) {
			t.Errorf("block %d has %d bytes", i+1, len(text))
		}
	}
}

func TestBlocksOfVolumesThatAreNotRight(t *testing.T) {
	w := newBlockWords(t)
	for why, v := range notRightVols(t, w.volWords) {
		wantBlocks(t, why, v, nil)
	}
	v := crowded(t, w.volWords, 16)
	v.Inodes = append(v.Inodes, impl.Inode{Id: v.Next, Kind: 1, Links: 1})
	v.Inodes[1].Ents, _ = w.add(v.Inodes[1].Ents, "more", v.Next)
	v.Next++
	wantBlocks(t, "17 inodes", v, nil)
}

// TestReadBlocksOfVolumesThatAreNotRight reads what would be written of them. The Hash is not written: where it alone is another, a right volume is read.
func TestReadBlocksOfVolumesThatAreNotRight(t *testing.T) {
	w := newBlockWords(t)
	for why, v := range notRightVols(t, w.volWords) {
		l := textsOfVol(v)
		want, ok := w.read(l)
		if ok != (strings.HasSuffix(why, "another hash") || strings.HasSuffix(why, "the hash and 16")) {
			t.Errorf("the words of %s: %v", why, ok)
		}
		wantRead(t, why, l, want, ok)
	}
	for _, x := range []struct {
		why    string
		blocks []string
	}{
		{"Next 0", filled("u\x00\x01", "i\x01\x02\x01\x00\x00")},
		{"Next 1", filled("u\x01\x01", "i\x01\x02\x01\x00\x00")},
		{"Next 100001", filled("u\xa1\x8d\x06\x01", "i\x01\x02\x01\x00\x00")},
		{"Next MaxVar", filled("u\xff\xff\xff\xff\xff\xff\x7f\x01", "i\x01\x02\x01\x00\x00")},
		{"Id 0", filled("u\x02\x01", "i\x00\x02\x01\x00\x00")},
		{"Id 2", filled("u\x03\x01", "i\x02\x02\x01\x00\x00")},
		{"Id MaxVar", filled("u\x02\x01", "i\xff\xff\xff\xff\xff\xff\x7f\x02\x01\x00\x00")},
		{"a file", filled("u\x02\x01", "i\x01\x01\x01\x00\x00")},
		{"Kind 0", filled("u\x02\x01", "i\x01\x00\x01\x00\x00")},
		{"Kind 3", filled("u\x02\x01", "i\x01\x03\x01\x00\x00")},
		{"Links 0", filled("u\x02\x01", "i\x01\x02\x00\x00\x00")},
		{"Links 2", filled("u\x02\x01", "i\x01\x02\x02\x00\x00")},
		{"Data in a directory", filled("u\x02\x01", "i\x01\x02\x01\x01x\x00")},
		{"an entry that leads nowhere", filled("u\x03\x01", "i\x01\x02\x01\x00\x01\x00\x01A\x02")},
		{"an entry that leads to inode 1", filled("u\x03\x01", "i\x01\x02\x01\x00\x01\x00\x01A\x01")},
		{"a file without a name", filled("u\x03\x02", "i\x01\x02\x01\x00\x00", "i\x02\x01\x00\x00\x00")},
		{"a name that is none", filled("u\x03\x02", "i\x01\x02\x01\x00\x01\x00\x01/\x02", "i\x02\x01\x01\x00\x00")},
		{"a name without bytes", filled("u\x03\x02", "i\x01\x02\x01\x00\x01\x00\x00\x02", "i\x02\x01\x01\x00\x00")},
		{"a name of 25 bytes", filled("u\x03\x02", "i\x01\x02\x01\x00\x01\x00\x19"+strings.Repeat("a", 25)+"\x02", "i\x02\x01\x01\x00\x00")},
		{"index 13", filled("u\x03\x02", "i\x01\x02\x01\x00\x01\x0d\x01A\x02", "i\x02\x01\x01\x00\x00")},
		{"names that are alike", filled("u\x03\x02", "i\x01\x02\x01\x00\x02\x00\x01A\x02\x01\x01a\x02", "i\x02\x01\x02\x00\x00")},
		{"21 bytes", filled("u\x03\x02", "i\x01\x02\x01\x00\x01\x00\x01A\x02", "i\x02\x01\x01\x15"+strings.Repeat("x", 21)+"\x00")},
		{"an entry in a file", filled("u\x04\x03", "i\x01\x02\x01\x00\x01\x00\x01A\x02", "i\x02\x01\x01\x00\x01\x00\x01A\x03", "i\x03\x01\x01\x00\x00")},
	} {
		wantNotRead(t, x.why, x.blocks)
	}
}

func TestReadBlocksByCount(t *testing.T) {
	w := newBlockWords(t)
	for why, v := range w.rightVols(t) {
		l := textsOfVol(v)
		for count := range 17 {
			wantNotRead(t, why+", less blocks", l[:count])
		}
		for _, more := range [][]string{{""}, {"u"}, {l[0]}, {l[1]}, {l[16]}, make([]string, 17), l} {
			wantNotRead(t, why+", more blocks behind", slices.Concat(l, more))
			wantNotRead(t, why+", more blocks ahead", slices.Concat(more, l))
		}
		wantNotRead(t, why+", one block put in", slices.Insert(slices.Clone(l), 1, ""))
		wantNotRead(t, why+", one block taken out", slices.Delete(slices.Clone(l), 1, 2))
	}
	for _, l := range [][]string{nil, {}, {""}, make([]string, 16), make([]string, 17), make([]string, 18), make([]string, 100000)} {
		wantNotRead(t, "no blocks, or nothing in them", l)
	}
}

func TestReadBlocksOfEmptyBlocks(t *testing.T) {
	w := newBlockWords(t)
	for why, v := range w.rightVols(t) {
		l := textsOfVol(v)
		for i := 0; i <= len(v.Inodes); i++ {
			wantNotRead(t, why+", an empty block at "+strconv.Itoa(i), withText(l, i, ""))
			wantNotRead(t, why+", only block "+strconv.Itoa(i), withText(make([]string, 17), i, l[i]))
		}
		if len(v.Inodes) == 16 {
			continue
		}
		// All blocks are there, and an empty one stands between them.
		for i := 0; i <= len(v.Inodes); i++ {
			moved := slices.Insert(slices.Clone(l[:16]), i, "")
			wantNotRead(t, why+", an empty block put in at "+strconv.Itoa(i), moved)
		}
		for i := len(v.Inodes) + 1; i < 17; i++ {
			wantNotRead(t, why+", the last inode further behind", withText(withText(l, len(v.Inodes), ""), i, l[len(v.Inodes)]))
			wantNotRead(t, why+", a block where there is no inode", withText(l, i, "i"))
			wantNotRead(t, why+", an inode too many", withText(l, i, l[len(v.Inodes)]))
		}
	}
}

// shortVols are those of which each byte is gone through.
func (w blockWords) shortVols(t *testing.T) []impl.Vol {
	return []impl.Vol{impl.NewVol(), twoNames(), sample(t, w.volWords), crowded(t, w.volWords, 16)}
}

func TestReadBlocksThatAreCut(t *testing.T) {
	w := newBlockWords(t)
	for why, v := range w.plainVols(t) {
		l := textsOfVol(v)
		for i, text := range l {
			for cut := range len(text) {
				wantNotRead(t, why+", cut", withText(l, i, text[:cut]))
				wantNotRead(t, why+", cut at its beginning", withText(l, i, text[cut+1:]))
			}
		}
	}
	// Nor where all behind the cut stands in the next block.
	l := textsOfVol(sample(t, w.volWords))
	for i := range 6 {
		for cut := range len(l[i]) {
			wantNotRead(t, "cut, and on in the next block", withText(withText(l, i, l[i][:cut]), i+1, l[i][cut:]+l[i+1]))
		}
	}
}

func TestReadBlocksWithMoreBytes(t *testing.T) {
	w := newBlockWords(t)
	for _, v := range w.shortVols(t) {
		l := textsOfVol(v)
		for i, text := range l {
			for b := range 256 {
				one := string([]byte{byte(b)})
				wantNotRead(t, "a byte more behind", withText(l, i, text+one))
				wantNotRead(t, "a byte more ahead", withText(l, i, one+text))
			}
			for _, more := range []string{"\x00\x00", "i", "i\x01\x02\x01\x00\x00", strings.Repeat("\x00", 4000), strings.Repeat("\x00", 4001)} {
				wantNotRead(t, "more bytes behind", withText(l, i, text+more))
			}
		}
	}
}

func TestReadBlocksWithABytePutInOrTakenOut(t *testing.T) {
	w := newBlockWords(t)
	for _, v := range w.shortVols(t) {
		l := textsOfVol(v)
		for i, text := range l {
			for at := range len(text) {
				w.wantReadByWords(t, "a byte taken out", withText(l, i, text[:at]+text[at+1:]))
				for _, b := range "\x00\x01\x02\x05\x14\x18ia/\x7f" {
					w.wantReadByWords(t, "a byte put in", withText(l, i, text[:at]+string(b)+text[at:]))
				}
				w.wantReadByWords(t, "a byte put in", withText(l, i, text[:at]+"\x80"+text[at:]))
			}
		}
	}
}

func TestReadBlocksExchanged(t *testing.T) {
	w := newBlockWords(t)
	for why, v := range w.rightVols(t) {
		l := textsOfVol(v)
		for i := range 17 {
			for j := range i {
				if l[i] == l[j] {
					continue
				}
				wantNotRead(t, why+", exchanged", withText(withText(l, i, l[j]), j, l[i]))
				wantNotRead(t, why+", one twice", withText(l, i, l[j]))
				wantNotRead(t, why+", one twice", withText(l, j, l[i]))
			}
		}
		if len(v.Inodes) > 1 {
			back := slices.Clone(l)
			slices.Reverse(back[1 : 1+len(v.Inodes)])
			wantNotRead(t, why+", all inodes in the other order", back)
		}
	}
}

func TestReadBlocksWithEntriesExchanged(t *testing.T) {
	w := newBlockWords(t)
	exchanged := 0
	for why, v := range w.rightVols(t) {
		for at, n := range v.Inodes {
			for i := 1; i < len(n.Ents); i++ {
				other := cloneVol(v)
				ents := other.Inodes[at].Ents
				ents[i-1], ents[i] = ents[i], ents[i-1]
				wantNotRead(t, why+", entries exchanged", textsOfVol(other))
				exchanged++
			}
		}
	}
	if exchanged == 0 {
		t.Error("no entries were exchanged")
	}
}

func TestReadBlocksWithBytesThatAreNotNeeded(t *testing.T) {
	w := newBlockWords(t)
	for why, v := range w.plainVols(t) {
		rows := volParts(v)
		eachPart(rows, isNumber, func(row, at int, p blockPart) {
			text := p.text()
			last := len(text) - 1
			longer := text[:last] + string([]byte{text[last] + 128})
			for noughts := range 8 {
				wantNotRead(t, why+", a Var with bytes that are not needed", withPart(rows, row, at, longer+strings.Repeat("\x80", noughts)+"\x00"))
			}
			wantNotRead(t, why+", a Var that does not end", withPart(rows, row, at, longer))
		})
	}
}

func TestReadBlocksWithOtherCounts(t *testing.T) {
	w := newBlockWords(t)
	for why, v := range w.plainVols(t) {
		rows := volParts(v)
		eachPart(rows, isCount, func(row, at int, p blockPart) {
			for _, n := range []int{p.n - 1, p.n + 1, p.n + 128, 16, 17, 18, 4000, 100000, math.MaxInt32, impl.MaxVar} {
				if n != p.n {
					wantNotRead(t, why+", another count "+strconv.Itoa(n), withPart(rows, row, at, varText(n)))
				}
			}
			w.wantReadByWords(t, why+", a count lacks", withPart(rows, row, at, ""))
		})
	}
}

func TestReadBlocksWithOtherNumbers(t *testing.T) {
	w := newBlockWords(t)
	taken, refused := 0, 0
	for why, v := range w.plainVols(t) {
		rows := volParts(v)
		eachPart(rows, isNumber, func(row, at int, p blockPart) {
			for _, n := range []int{p.n - 1, p.n + 1, p.n + 128, 0, 1, 2, 12, 13, 99999, 100000, 100001, 1<<32 + p.n, impl.MaxVar} {
				if w.wantReadByWords(t, why+", another number", withPart(rows, row, at, varText(n))) {
					taken++
				} else {
					refused++
				}
			}
		})
	}
	if taken == 0 || refused == 0 {
		t.Error("taken and refused:", taken, refused)
	}
}

func TestReadBlocksWithOtherMarks(t *testing.T) {
	w := newBlockWords(t)
	for _, v := range w.shortVols(t) {
		l := textsOfVol(v)
		for i := 0; i <= len(v.Inodes); i++ {
			for b := range 256 {
				if byte(b) != l[i][0] {
					wantNotRead(t, "another mark", withText(l, i, withByte(l[i], 0, byte(b))))
				}
			}
		}
	}
}

func TestReadBlocksWithEachByteTurned(t *testing.T) {
	w := newBlockWords(t)
	for _, v := range w.shortVols(t) {
		l := textsOfVol(v)
		taken := 0
		for i, text := range l {
			for at := range len(text) {
				for b := range 256 {
					turned := withText(l, i, withByte(text, at, byte(b)))
					if w.wantReadByWords(t, "a byte turned", turned) && byte(b) != text[at] {
						taken++
					}
				}
				if t.Failed() {
					return
				}
			}
		}
		// A Next that is greater, another index and other bytes of Data are of another right volume.
		if taken == 0 {
			t.Errorf("no byte of %q can be turned", l)
		}
	}
}

func TestReadBlocksOfTheGreatestVolume(t *testing.T) {
	w := newBlockWords(t)
	l := textsOfVol(w.greatestVol())
	for _, i := range []int{0, 1, 15, 16} {
		for at := range len(l[i]) {
			bit := byte(1) << (at % 8)
			w.wantReadByWords(t, "a bit turned", withText(l, i, withByte(l[i], at, l[i][at]^bit)))
			wantNotRead(t, "cut", withText(l, i, l[i][:at]))
		}
	}
	rows := volParts(w.greatestVol())
	for _, row := range []int{0, 15, 16} {
		for at, p := range rows[row] {
			if !p.number {
				continue
			}
			for _, n := range []int{p.n - 1, p.n + 1} {
				taken := w.wantReadByWords(t, "another number", withPart(rows, row, at, varText(n)))
				if taken && p.counts {
					t.Errorf("block %d is taken with another count %d", row, n)
				}
			}
		}
	}
}

// bytesBelow tells so many bytes, most of them small, as they stand in blocks.
func (s *steady) bytesBelow(count int) string {
	out := make([]byte, count)
	for i := range out {
		out[i] = byte(s.below([]int{4, 4, 128, 256}[s.below(4)]))
	}
	return string(out)
}

func TestReadBlocksOfAnyBytes(t *testing.T) {
	w := newBlockWords(t)
	s := steady{7}
	for range 3000 {
		l := make([]string, 17)
		for i := range 1 + s.below(17) {
			l[i] = "i" + s.bytesBelow(s.below(12))
		}
		l[0] = "u" + s.bytesBelow(2)
		if s.below(2) == 0 {
			l[0] = "u\x09" + string([]byte{byte(s.below(20))})
		}
		w.wantReadByWords(t, "any bytes", l)
	}
	for length := range 4 {
		textsOf("iu\x00\x01\x02\x80\xff", length, func(text string) {
			l := textsOfVol(impl.NewVol())
			for i := range 3 {
				w.wantReadByWords(t, "short texts", withText(l, i, text))
				w.wantReadByWords(t, "short texts behind", withText(l, i, l[i]+text))
			}
		})
	}
}

// changed has one change somewhere: bytes taken out, put in or turned, or two blocks exchanged.
func (s *steady) changed(l []string) []string {
	l = slices.Clone(l)
	i, j := s.below(17), s.below(17)
	if s.below(6) == 0 {
		l[i], l[j] = l[j], l[i]
		return l
	}
	at := s.below(len(l[i]) + 1)
	gone := min(s.below(3), len(l[i])-at)
	l[i] = l[i][:at] + s.bytesBelow(s.below(3)) + l[i][at+gone:]
	return l
}

func TestReadBlocksWithAFewChanges(t *testing.T) {
	w := newBlockWords(t)
	s := steady{11}
	taken := 0
	for _, v := range w.shortVols(t) {
		for range 3000 {
			l := textsOfVol(v)
			for range 1 + s.below(4) {
				l = s.changed(l)
			}
			if w.wantReadByWords(t, "a few changes", l) && !slices.Equal(l, textsOfVol(v)) {
				taken++
			}
		}
	}
	if taken == 0 {
		t.Error("no change was taken")
	}
}

func TestReadBlocksOfLongTexts(t *testing.T) {
	l := textsOfVol(impl.NewVol())
	for _, count := range []int{13, 1000, 1300, 2000, 3000000} {
		entries := strings.Repeat("\x00\x00\x02", count)
		wantNotRead(t, "many entries", withText(l, 1, "i\x01\x02\x01\x00"+varText(count)+entries))
	}
	for _, size := range []int{21, 3990, 4000, 4001, 3000000} {
		wantNotRead(t, "many bytes", withText(l, 1, "i\x01\x02\x01"+varText(size)+strings.Repeat("\x00", size)+"\x00"))
		for i := range 17 {
			wantNotRead(t, "a long text", withText(l, i, strings.Repeat("i", size)))
		}
	}
}

// TestBlocksOfVolumesChangedForLong goes there and back behind each call.
func TestBlocksOfVolumesChangedForLong(t *testing.T) {
	w := newBlockWords(t)
	names := append(w.namesOf(3, 3), "FILE", "file", "\xc3\x85", "a\xcc\x8a", "ss", "\xc3\x9f", "d", "D", strings.Repeat("\xea\xb0\x81", 8))
	for seed := range 4 {
		s := steady{uint64(100 + seed)}
		v := impl.NewVol()
		v.Next = []int{2, 120, 16380, 99960}[seed]
		for range 400 {
			id := func() int { return v.Inodes[s.below(len(v.Inodes))].Id }
			c := impl.Call{Kind: 1 + s.below(8), Dir: id(), Name: names[s.below(len(names))]}
			if c.Kind == impl.CaLink || c.Kind == impl.CaRename {
				c.To, c.As = id(), names[s.below(len(names))]
			}
			if c.Kind == impl.CaWrite {
				c.Data = mixedText(s.below(21))
			}
			v, _ = impl.VolDo(v, c)
			l := textsOfVol(v)
			wantBlocks(t, "changed", v, l)
			wantRead(t, "changed", l, v, true)
			if t.Failed() {
				return
			}
		}
	}
}
