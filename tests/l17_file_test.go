package tests

import (
	"math"
	"slices"
	"strconv"
	"strings"
	"testing"

	"loop.example/g00773/impl"
)

// bytesInBlock and bytesInFile stand here as the document has them.
const bytesInBlock = 4
const bytesInFile = 48

// A picture is a store and a file in it. Each block is four times its letter (a is block 0, x is block 23) but those in texts, where a point is a byte 0.
type picture struct {
	bits  string
	texts string
	size  int
	file  string
}

// pointed has a byte 0 for each point.
func pointed(text string) string { return strings.ReplaceAll(text, ".", "\x00") }

func (p picture) store() impl.Store {
	if len(p.bits) != bitsInMap {
		panic("no map: " + p.bits)
	}
	s := impl.Store{Bits: mapOf(p.bits)}
	for i := range bitsInMap {
		s.Data = append(s.Data, strings.Repeat(string(rune('a'+i)), bytesInBlock))
	}
	for _, text := range strings.Fields(p.texts) {
		if len(text) != 2+bytesInBlock || text[1] != ':' {
			panic("no block: " + text)
		}
		s.Data[text[0]-'a'] = pointed(text[2:])
	}
	return s
}

func (p picture) fil() impl.Fil { return impl.Fil{Size: p.size, Exts: fileOf(p.file).exts()} }

func cloneStore(s impl.Store) impl.Store {
	return impl.Store{Bits: slices.Clone(s.Bits), Data: slices.Clone(s.Data)}
}

func sameStore(a, b impl.Store) bool {
	return slices.Equal(a.Bits, b.Bits) && slices.Equal(a.Data, b.Data)
}

func sameFil(a, b impl.Fil) bool { return a.Size == b.Size && slices.Equal(a.Exts, b.Exts) }

func shownStore(s impl.Store) string {
	out := "{" + strconv.Itoa(len(s.Bits)) + " " + textOfMap(s.Bits) + " " + strconv.Itoa(len(s.Data))
	for i, text := range s.Data {
		if i < 30 {
			out += " " + strings.Trim(strconv.Quote(shortened(text)), `"`)
		}
	}
	return strings.ReplaceAll(out, `\x00`, ".") + "}"
}

func shownFil(f impl.Fil) string {
	out := "{" + strconv.Itoa(f.Size) + ":"
	for _, e := range f.Exts {
		out += " " + strconv.Itoa(e.At) + "-" + strconv.Itoa(e.Block) + "-" + strconv.Itoa(e.Len)
	}
	return out + "}"
}

// In the document's words.

func storeRightByWords(s impl.Store) bool {
	if !isMap(s.Bits) || len(s.Data) != bitsInMap {
		return false
	}
	for _, text := range s.Data {
		if len(text) != bytesInBlock {
			return false
		}
	}
	return true
}

// fileRightByWords asks each byte that has a block by itself.
func fileRightByWords(s impl.Store, f impl.Fil) bool {
	if !storeRightByWords(s) || f.Size < 0 || f.Size > bytesInFile || !extsRightByWords(f.Exts) {
		return false
	}
	for i, block := range mapByWords(f.Exts) {
		if block < 0 {
			continue
		}
		if i*bytesInBlock >= f.Size || !s.Bits[block] {
			return false
		}
		for j := range bytesInBlock {
			if i*bytesInBlock+j >= f.Size && s.Data[block][j] != 0 {
				return false
			}
		}
	}
	return true
}

// plainByWords is asked of a right file.
func plainByWords(s impl.Store, f impl.Fil) string {
	m := mapByWords(f.Exts)
	out := make([]byte, f.Size)
	for at := range out {
		if block := m[at/bytesInBlock]; block >= 0 {
			out[at] = s.Data[block][at%bytesInBlock]
		}
	}
	return string(out)
}

// readFileByWords goes on byte by byte, so that no sum of off and n is needed.
func readFileByWords(s impl.Store, f impl.Fil, off, n int) (string, bool) {
	if !fileRightByWords(s, f) || off < 0 || n < 0 {
		return "", false
	}
	plain, out := plainByWords(s, f), ""
	for at := off; at < len(plain) && len(out) < n; at++ {
		out += plain[at : at+1]
	}
	return out, true
}

// setByte is asked of a list of its own.
func setByte(l []string, block, at int, b byte) {
	text := []byte(l[block])
	text[at] = b
	l[block] = string(text)
}

// writeFileByWords goes on byte by byte: the first byte in a file block without a block takes the first free one.
func writeFileByWords(s impl.Store, f impl.Fil, off int, data string) (impl.Store, impl.Fil, bool) {
	if !fileRightByWords(s, f) || off < 0 || off > bytesInFile || len(data) > bytesInFile-off {
		return s, f, false
	}
	out, m := cloneStore(s), mapByWords(f.Exts)
	size := f.Size
	for i := range len(data) {
		at := off + i
		if m[at/bytesInBlock] < 0 {
			block := slices.Index(out.Bits, false)
			if block < 0 {
				return s, f, false
			}
			m[at/bytesInBlock] = block
			out.Bits[block], out.Data[block] = true, pointed("....")
		}
		setByte(out.Data, m[at/bytesInBlock], at%bytesInBlock, data[i])
		size = max(size, at+1)
	}
	return out, impl.Fil{Size: size, Exts: m.exts()}, true
}

func cutFileByWords(s impl.Store, f impl.Fil, size int) (impl.Store, impl.Fil, bool) {
	if !fileRightByWords(s, f) || size < 0 || size > bytesInFile {
		return s, f, false
	}
	out, m := cloneStore(s), mapByWords(f.Exts)
	for i, block := range m {
		if block < 0 {
			continue
		}
		if i*bytesInBlock >= size {
			out.Bits[block] = false
			m[i] = -1
			continue
		}
		for j := range bytesInBlock {
			if i*bytesInBlock+j >= size {
				setByte(out.Data, block, j, 0)
			}
		}
	}
	return out, impl.Fil{Size: size, Exts: m.exts()}, true
}

const noneTaken = "........................"

func TestFilesByTheWordsThemselves(t *testing.T) {
	p := picture{"#.#.....................", "c:12..", 10, "a.c........."}
	s, f := p.store(), p.fil()
	if s.Data[0] != "aaaa" || s.Data[2] != "12\x00\x00" || s.Data[23] != "xxxx" || !s.Bits[2] || s.Bits[1] || f.Size != 10 || !slices.Equal(f.Exts, extsAt(0, 0, 1, 2, 2, 1)) {
		t.Fatal("picture", shownStore(s), shownFil(f))
	}
	if !storeRightByWords(s) || !fileRightByWords(s, f) || plainByWords(s, f) != "aaaa\x00\x00\x00\x0012" {
		t.Errorf("plain %q", plainByWords(s, f))
	}
	if got, ok := readFileByWords(s, f, 3, 6); !ok || got != "a\x00\x00\x00\x001" {
		t.Errorf("read %q", got)
	}
	if got, ok := readFileByWords(s, f, 10, 6); !ok || got != "" {
		t.Errorf("read %q", got)
	}
	next, file, ok := writeFileByWords(s, f, 3, "345678")
	if !ok || next.Data[0] != "aaa3" || next.Data[1] != "4567" || next.Data[2] != "82\x00\x00" || !slices.Equal(file.Exts, extsAt(0, 0, 3)) || file.Size != 10 {
		t.Error("write", shownStore(next), shownFil(file))
	}
	next, file, ok = cutFileByWords(s, f, 3)
	if !ok || next.Data[0] != "aaa\x00" || next.Data[2] != "12\x00\x00" || next.Bits[2] || !slices.Equal(file.Exts, extsAt(0, 0, 1)) || file.Size != 3 {
		t.Error("cut", shownStore(next), shownFil(file))
	}
	if !sameStore(s, p.store()) {
		t.Error("the words changed what they were given")
	}
	for _, wrong := range []picture{{"#.#.....................", "", 10, "a.c........."}, {"#.......................", "c:12..", 10, "a.c........."}, {"#.#.....................", "", 8, "a.c........."}} {
		if fileRightByWords(wrong.store(), wrong.fil()) {
			t.Error("right", wrong)
		}
	}
}

// A given is a store and a file with room behind each list and with texts of their own bytes.
type given struct {
	s      impl.Store
	f      impl.Fil
	before impl.Store
	left   func() bool
}

// give has behind the flags and the extents what would go on from them, or what is not right.
func give(s impl.Store, f impl.Fil, number int) given {
	texts, _ := looseTexts(s.Data)
	bits, bitsLeft := roomyFlags(s.Bits, number == 1)
	data, dataLeft := roomyTexts(texts)
	exts, extsLeft := roomyExts(f.Exts, extRooms(f.Exts)[number])
	return given{
		s:      impl.Store{Bits: bits, Data: data},
		f:      impl.Fil{Size: f.Size, Exts: exts},
		before: s,
		left:   func() bool { return bitsLeft() && dataLeft() && extsLeft() && slices.Equal(data, s.Data) },
	}
}

func listSpans(s impl.Store, f impl.Fil) []span {
	return []span{spanOf(s.Bits), spanOf(s.Data), spanOf(f.Exts)}
}

func spoilStore(s impl.Store) {
	spoilFlags(s.Bits)
	spoilTexts(s.Data)
}

func wantStoreOk(t *testing.T, why string, s impl.Store, want bool) {
	t.Helper()
	if storeRightByWords(s) != want {
		t.Fatalf("the words have %v of %s (%s)", !want, shownStore(s), why)
	}
	for number := range 2 {
		g := give(s, impl.Fil{}, number)
		if got := impl.StoreOk(g.s); got != want {
			t.Errorf("StoreOk of %s (%s) = %v", shownStore(s), why, got)
		}
		if !g.left() {
			t.Errorf("StoreOk of %s (%s) changed what was given", shownStore(s), why)
		}
	}
}

func wantFilOk(t *testing.T, why string, s impl.Store, f impl.Fil, want bool) {
	t.Helper()
	if fileRightByWords(s, f) != want {
		t.Fatalf("the words have %v of %s in %s (%s)", !want, shownFil(f), shownStore(s), why)
	}
	for number := range 2 {
		g := give(s, f, number)
		if got := impl.FilOk(g.s, g.f); got != want {
			t.Errorf("FilOk of %s in %s (%s) = %v", shownFil(f), shownStore(s), why, got)
		}
		if !g.left() {
			t.Errorf("FilOk of %s in %s (%s) changed what was given", shownFil(f), shownStore(s), why)
		}
	}
}

// wantFileRead asks what is told against the words too, as do those that follow.
func wantFileRead(t *testing.T, why string, s impl.Store, f impl.Fil, off, n int, want string, ok bool) {
	t.Helper()
	if said, saidOk := readFileByWords(s, f, off, n); said != want || saidOk != ok {
		t.Fatalf("the words read %q, %v of %s in %s at %d, %d (%s)", said, saidOk, shownFil(f), shownStore(s), off, n, why)
	}
	for number := range 2 {
		g := give(s, f, number)
		got, gotOk := impl.FilRead(g.s, g.f, off, n)
		if got != want || gotOk != ok {
			t.Errorf("FilRead of %s in %s at %d, %d (%s) = %q, %v, not %q, %v", shownFil(f), shownStore(s), off, n, why, got, gotOk, want, ok)
		}
		if !g.left() {
			t.Errorf("FilRead of %s in %s at %d, %d (%s) changed what was given", shownFil(f), shownStore(s), off, n, why)
		}
		if len(got) > 1 && bytesShare(append(slices.Clone(g.s.Data), got)) {
			t.Errorf("FilRead of %s in %s at %d, %d (%s) shares bytes with the store", shownFil(f), shownStore(s), off, n, why)
		}
	}
}

// A fileChange is a write or a cut.
type fileChange func(s impl.Store, f impl.Fil) (impl.Store, impl.Fil, bool)

// wantChange asks the answer, that what was given is left, and that no list and no text of both share memory, also where nothing was changed.
func wantChange(t *testing.T, what string, s impl.Store, f impl.Fil, do fileChange, texts []string, wantS impl.Store, wantF impl.Fil, ok bool) {
	t.Helper()
	for number := range 2 {
		g := give(s, f, number)
		gotS, gotF, gotOk := do(g.s, g.f)
		if gotOk != ok || !sameStore(gotS, wantS) || !sameFil(gotF, wantF) {
			t.Errorf("%s\n of   %s %s\n is   %s %s %v\n want %s %s %v", what, shownStore(s), shownFil(f), shownStore(gotS), shownFil(gotF), gotOk, shownStore(wantS), shownFil(wantF), ok)
			return
		}
		if !g.left() {
			t.Errorf("%s of %s %s changed what was given", what, shownStore(s), shownFil(f))
		}
		if spansShare(append(listSpans(g.s, g.f), listSpans(gotS, gotF)...)) {
			t.Errorf("%s of %s %s: lists share memory", what, shownStore(s), shownFil(f))
		}
		if bytesShare(slices.Concat(g.s.Data, gotS.Data, texts)) {
			t.Errorf("%s of %s %s: texts share memory", what, shownStore(s), shownFil(f))
		}
		spoilStore(gotS)
		spoilExts(gotF.Exts)
		if !g.left() {
			t.Errorf("%s of %s %s shares memory with what was given", what, shownStore(s), shownFil(f))
		}
		againS, againF, againOk := do(g.s, g.f)
		if againOk != ok || !sameStore(againS, wantS) || !sameFil(againF, wantF) {
			t.Errorf("%s of %s %s is another one behind a change of its answer", what, shownStore(s), shownFil(f))
		}
	}
}

func wantFileWrite(t *testing.T, why string, s impl.Store, f impl.Fil, off int, data string, wantS impl.Store, wantF impl.Fil, ok bool) {
	t.Helper()
	what := "FilWrite at " + strconv.Itoa(off) + " of " + strconv.Quote(shortened(data)) + " (" + why + ")"
	if saidS, saidF, saidOk := writeFileByWords(s, f, off, data); saidOk != ok || !sameStore(saidS, wantS) || !sameFil(saidF, wantF) {
		t.Fatalf("%s of %s %s: the words have %s %s %v", what, shownStore(s), shownFil(f), shownStore(saidS), shownFil(saidF), saidOk)
	}
	text, _ := loose(data)
	do := func(s impl.Store, f impl.Fil) (impl.Store, impl.Fil, bool) { return impl.FilWrite(s, f, off, text) }
	wantChange(t, what, s, f, do, []string{text}, wantS, wantF, ok)
}

func wantFileCut(t *testing.T, why string, s impl.Store, f impl.Fil, size int, wantS impl.Store, wantF impl.Fil, ok bool) {
	t.Helper()
	what := "FilCut at " + strconv.Itoa(size) + " (" + why + ")"
	if saidS, saidF, saidOk := cutFileByWords(s, f, size); saidOk != ok || !sameStore(saidS, wantS) || !sameFil(saidF, wantF) {
		t.Fatalf("%s of %s %s: the words have %s %s %v", what, shownStore(s), shownFil(f), shownStore(saidS), shownFil(saidF), saidOk)
	}
	do := func(s impl.Store, f impl.Fil) (impl.Store, impl.Fil, bool) { return impl.FilCut(s, f, size) }
	wantChange(t, what, s, f, do, nil, wantS, wantF, ok)
}

// wantFileByWords asks all three of one file, where the words tell what is wanted.
func wantFileByWords(t *testing.T, why string, s impl.Store, f impl.Fil, off, n int, data string) {
	t.Helper()
	text, ok := readFileByWords(s, f, off, n)
	wantFileRead(t, why, s, f, off, n, text, ok)
	wantS, wantF, ok := writeFileByWords(s, f, off, data)
	wantFileWrite(t, why, s, f, off, data, wantS, wantF, ok)
	wantS, wantF, ok = cutFileByWords(s, f, n)
	wantFileCut(t, why, s, f, n, wantS, wantF, ok)
}

func TestFileConstants(t *testing.T) {
	if impl.BlockSize != bytesInBlock || impl.MaxFileBlocks*impl.BlockSize != bytesInFile {
		t.Error("BlockSize", impl.BlockSize)
	}
}

func TestNewStore(t *testing.T) {
	want := impl.Store{Bits: make([]bool, bitsInMap), Data: slices.Repeat([]string{"\x00\x00\x00\x00"}, bitsInMap)}
	first := impl.NewStore()
	if !sameStore(first, want) {
		t.Error("NewStore", shownStore(first))
	}
	wantStoreOk(t, "new", first, true)
	wantFilOk(t, "new", first, impl.Fil{}, true)
	second := impl.NewStore()
	if spansShare(append(listSpans(first, impl.Fil{}), listSpans(second, impl.Fil{})...)) {
		t.Error("two stores share memory")
	}
	spoilStore(first)
	if third := impl.NewStore(); !sameStore(second, want) || !sameStore(third, want) {
		t.Error("NewStore is changed with an earlier one", shownStore(second), shownStore(third))
	}
}

// notRightStores have one thing wrong, but for the last ones.
func notRightStores() map[string]impl.Store {
	p := picture{"##......................", "", 8, "ab.........."}
	out := map[string]impl.Store{"zero": {}}
	for why, l := range map[string][]bool{"none": nil, "one too few": mapOf("##....................."), "one too many": mapOf("##......................."), "one that is set too many": mapOf("##......................#"), "twice as many": mapOf("##......................##......................"), "two": mapOf("##"), "a word": mapOf("##..............................")} {
		s := p.store()
		s.Bits = l
		out["Bits: "+why] = s
	}
	data := p.store().Data
	for why, l := range map[string][]string{"none": nil, "one too few": data[:23], "the first one left out": data[1:], "one too many": append(slices.Clone(data), "yyyy"), "an empty one too many": append(slices.Clone(data), ""), "twice as many": append(slices.Clone(data), data...), "two": data[:2]} {
		s := p.store()
		s.Data = l
		out["Data: "+why] = s
	}
	for _, at := range []int{0, 1, 2, 12, 22, 23} {
		for why, text := range map[string]string{"no byte": "", "one byte": "a", "one byte too few": "aaa", "one byte too many": "aaaaa", "a byte 0 too many": "aaaa\x00", "bytes 0, one too few": "\x00\x00\x00", "twice as many": "aaaaaaaa", "many": strings.Repeat("ab", 40000), "four signs of two bytes": "\u00e5\u00e5\u00e5\u00e5", "two bytes, and room for four": "aaaa"[:2]} {
			s := p.store()
			s.Data[at] = text
			out["Data "+strconv.Itoa(at)+": "+why] = s
		}
	}
	two := p.store()
	two.Data[3], two.Data[4] = "aaa", "aaaaa"
	out["as many bytes in all"] = two
	two.Bits = mapOf("##.")
	out["both"] = two
	return out
}

func TestStoreOk(t *testing.T) {
	for why, s := range notRightStores() {
		wantStoreOk(t, why, s, false)
	}
	for _, bits := range []string{noneTaken, "########################", "#.......................", ".......................#", "#.#.#.#.#.#.#.#.#.#.#.#."} {
		wantStoreOk(t, bits, picture{bits: bits, file: noFile}.store(), true)
		wantStoreOk(t, bits, picture{bits: bits, texts: "a:.... b:...1 x:1... w:....", file: noFile}.store(), true)
	}
	s := impl.NewStore()
	for i, text := range []string{"\xff\xff\xff\xff", "\x80\x00\xc3\xa5", "\u00e5\u00e5", "\U0001f600", "    ", "\n\n\n\n"} {
		s.Data[4*i] = text
	}
	wantStoreOk(t, "any bytes", s, true)
}

func TestStoreOkByHowMany(t *testing.T) {
	for bits := range 60 {
		for data := range 60 {
			s := impl.Store{Bits: make([]bool, bits), Data: slices.Repeat([]string{"abcd"}, data)}
			if got, want := impl.StoreOk(s), bits == 24 && data == 24; got != want {
				t.Errorf("StoreOk of %d Bits and %d Data = %v", bits, data, got)
			}
		}
	}
	for at := range bitsInMap {
		for n := range 10 {
			s := impl.NewStore()
			s.Data[at] = strings.Repeat("\x00", n)
			if got := impl.StoreOk(s); got != (n == bytesInBlock) {
				t.Errorf("StoreOk with %d bytes at %d = %v", n, at, got)
			}
		}
	}
}

// rightFiles are told by hand, and what each reads as.
var rightFiles = []struct {
	why   string
	at    picture
	plain string
}{
	{"nothing", picture{noneTaken, "", 0, noFile}, ""},
	{"nothing, and all taken by others", picture{"########################", "", 0, noFile}, ""},
	{"one byte without a block", picture{noneTaken, "", 1, noFile}, "."},
	{"a block's bytes without a block", picture{noneTaken, "", 4, noFile}, "...."},
	{"all bytes without a block", picture{noneTaken, "", 48, noFile}, strings.Repeat(".", 48)},
	{"one byte", picture{"#.......................", "a:1...", 1, "a..........."}, "1"},
	{"three bytes", picture{"#.......................", "a:123.", 3, "a..........."}, "123"},
	{"one block", picture{"#.......................", "", 4, "a..........."}, "aaaa"},
	{"one block, the last of the store", picture{".......................#", "", 4, "x..........."}, "xxxx"},
	{"a block and a byte", picture{"##......................", "b:1...", 5, "ab.........."}, "aaaa1"},
	{"two blocks", picture{"##......................", "", 8, "ab.........."}, "aaaabbbb"},
	{"a block of bytes 0", picture{"#.......................", "a:....", 4, "a..........."}, "...."},
	{"a block of bytes 0, ends in its midst", picture{"#.......................", "a:....", 2, "a..........."}, ".."},
	{"two blocks the other way round", picture{"##......................", "a:12..", 6, "ba.........."}, "bbbb12"},
	{"blocks that do not stand side by side", picture{"..#....#...#............", "", 12, "hcl........."}, "hhhhccccllll"},
	{"beside blocks of others", picture{"#.#######..........#....", "", 8, "dt.........."}, "ddddtttt"},
	{"a hole at the beginning", picture{"#.......................", "", 8, ".a.........."}, "....aaaa"},
	{"a hole in the midst", picture{"##......................", "b:bb..", 10, "a.b........."}, "aaaa....bb"},
	{"a hole at the end, at the end of a block", picture{"#.......................", "", 12, "a..........."}, "aaaa........"},
	{"a hole at the end, in the midst of a block", picture{"#.......................", "", 5, "a..........."}, "aaaa."},
	{"a wide hole at the end, in the midst of a block", picture{"#.......................", "", 47, "a..........."}, "aaaa" + strings.Repeat(".", 43)},
	{"each second one a hole", picture{"######..................", "f:f...", 41, "a.b.c.d.e.f."}, "aaaa....bbbb....cccc....dddd....eeee....f"},
	{"each second one a hole, the first too", picture{"######..................", "f:fff.", 47, ".a.b.c.d.e.f"}, "....aaaa....bbbb....cccc....dddd....eeee....fff"},
	{"as great as may be", picture{"############............", "", 48, "abcdefghijkl"}, "aaaabbbbccccddddeeeeffffgggghhhhiiiijjjjkkkkllll"},
	{"as great as may be, backwards from the last block", picture{"............############", "", 48, "xwvutsrqponm"}, "xxxxwwwwvvvvuuuuttttssssrrrrqqqqppppoooonnnnmmmm"},
	{"one byte less than may be", picture{"############............", "l:lll.", 47, "abcdefghijkl"}, "aaaabbbbccccddddeeeeffffgggghhhhiiiijjjjkkkklll"},
	{"the last block alone", picture{"#.......................", "", 48, "...........a"}, strings.Repeat(".", 44) + "aaaa"},
	{"bytes 0 among others", picture{"##......................", "a:1..2 b:.3..", 8, "ab.........."}, "1..2.3.."},
	{"bytes 0 up to the end", picture{"##......................", "a:1... b:....", 7, "ab.........."}, "1......"},
}

// notRightFiles have one thing wrong, in a store that is right.
var notRightFiles = []struct {
	why string
	at  picture
}{
	{"Size below 0", picture{noneTaken, "", -1, noFile}},
	{"Size below 0, and a block", picture{"#.......................", "", -1, "a..........."}},
	{"Size a block below 0", picture{noneTaken, "", -4, noFile}},
	{"the least Size", picture{noneTaken, "", math.MinInt, noFile}},
	{"Size past the greatest", picture{noneTaken, "", 49, noFile}},
	{"Size past the greatest, and all blocks", picture{"############............", "", 49, "abcdefghijkl"}},
	{"Size a block past the greatest", picture{noneTaken, "", 52, noFile}},
	{"the greatest int", picture{noneTaken, "", math.MaxInt, noFile}},
	{"near the greatest int", picture{noneTaken, "", math.MaxInt - 3, noFile}},
	{"a Size whose lower half is one", picture{noneTaken, "", 1<<32 + 4, noFile}},
	{"a block, and Size 0", picture{"#.......................", "", 0, "a..........."}},
	{"a block of bytes 0, and Size 0", picture{"#.......................", "a:....", 0, "a..........."}},
	{"a block at the end", picture{"##......................", "", 4, "ab.........."}},
	{"a block of bytes 0 at the end", picture{"##......................", "b:....", 4, "ab.........."}},
	{"a block at the end, in the midst of one", picture{"##......................", "a:a...", 1, "ab.........."}},
	{"a block behind the end", picture{"##......................", "", 4, "a.b........."}},
	{"a block of bytes 0 behind the end", picture{"##......................", "b:....", 7, "a.b........."}},
	{"the last block of all behind the end", picture{"#.......................", "a:....", 44, "...........a"}},
	{"a block at the end, ahead of which is a hole", picture{"#.......................", "a:....", 8, "..a........."}},
	{"one block that is not set", picture{noneTaken, "", 4, "a..........."}},
	{"one block that is not set, of bytes 0", picture{noneTaken, "a:....", 4, "a..........."}},
	{"the first of two that is not set", picture{".#......................", "", 8, "ab.........."}},
	{"the second of two that is not set", picture{"#.......................", "", 8, "ab.........."}},
	{"one in the midst that is not set", picture{"#####.######............", "", 48, "abcdefghijkl"}},
	{"the last block that is not set", picture{"#######################.", "", 4, "x..........."}},
	{"none is set but another one", picture{".#......................", "", 4, "a..........."}},
	{"a byte behind Size", picture{"#.......................", "a:12..", 1, "a..........."}},
	{"a far byte behind Size", picture{"#.......................", "a:1..2", 1, "a..........."}},
	{"the last byte behind Size", picture{"#.......................", "a:1232", 3, "a..........."}},
	{"a byte behind Size in the second block", picture{"##......................", "b:bb1.", 6, "ab.........."}},
	{"a far byte behind Size in the second block", picture{"##......................", "b:bb.1", 6, "ab.........."}},
	{"all bytes behind Size", picture{"##......................", "", 5, "ab.........."}},
	{"a byte behind Size, ahead of it a hole", picture{"#.......................", "a:...1", 7, ".a.........."}},
	{"a byte behind Size at the greatest end", picture{"############............", "", 47, "abcdefghijkl"}},
	{"a byte behind Size, blocks the other way round", picture{"##......................", "b:1...", 6, "ba.........."}},
}

func TestFilOkByHand(t *testing.T) {
	for _, row := range rightFiles {
		wantFilOk(t, row.why, row.at.store(), row.at.fil(), true)
	}
	for _, row := range notRightFiles {
		wantFilOk(t, row.why, row.at.store(), row.at.fil(), false)
	}
	for why, s := range notRightStores() {
		for _, f := range []impl.Fil{{}, {Size: 8, Exts: extsAt(0, 0, 2)}, {Size: 48}, {Size: -1}} {
			wantFilOk(t, why, s, f, false)
		}
	}
}

func TestFilOkOfExtsThatAreNotRight(t *testing.T) {
	s := picture{bits: "########################", file: noFile}.store()
	zero := impl.NewStore()
	zero.Bits = slices.Clone(s.Bits)
	for _, row := range brokenExts {
		for _, size := range []int{0, 1, 4, 48} {
			wantFilOk(t, row.why, s, impl.Fil{Size: size, Exts: row.exts}, false)
			wantFilOk(t, row.why, zero, impl.Fil{Size: size, Exts: row.exts}, false)
		}
	}
	for _, row := range fileRows {
		wantFilOk(t, row.why, zero, impl.Fil{Size: 48, Exts: row.exts}, true)
		wantFilOk(t, row.why, s, impl.Fil{Size: 48, Exts: row.exts}, true)
	}
}

// Of each size, one block is in each place, with one byte that is not 0.
func TestFilOkAtEachPlace(t *testing.T) {
	for size := -1; size <= 49; size++ {
		for i := range blocksInFile {
			for at := -1; at < bytesInBlock; at++ {
				s := impl.NewStore()
				s.Bits[i+7] = true
				if at >= 0 {
					setByte(s.Data, i+7, at, 1)
				}
				inBounds := size >= 0 && size <= 48
				want := inBounds && size > 4*i && (at < 0 || 4*i+at < size)
				f := impl.Fil{Size: size, Exts: extsAt(i, i+7, 1)}
				if got := impl.FilOk(s, f); got != want {
					t.Errorf("FilOk of %s with byte %d in %s = %v", shownFil(f), at, shownStore(s), got)
				}
				s.Bits[i+7] = false
				if impl.FilOk(s, f) {
					t.Errorf("FilOk of %s with byte %d in %s = true", shownFil(f), at, shownStore(s))
				}
			}
		}
	}
	for _, size := range append(oddPlaces(), farNumbers...) {
		want := size >= 0 && size <= 48
		if got := impl.FilOk(impl.NewStore(), impl.Fil{Size: size}); got != want {
			t.Errorf("FilOk of Size %d = %v", size, got)
		}
	}
}

// The bytes of blocks that are none of the file are asked by nobody.
func TestFilOkOfOtherBlocks(t *testing.T) {
	p := picture{"###.....................", "a:1..2 b:3... c:....", 12, "abc........."}
	for _, bits := range []string{"###.....................", "########################", "###.#.#.#.#.#.#.#.#.#.#."} {
		p.bits = bits
		for size := 9; size <= 12; size++ {
			p.size = size
			wantFilOk(t, bits, p.store(), p.fil(), true)
		}
	}
}

func TestFilReadByHand(t *testing.T) {
	for _, row := range rightFiles {
		s, f, plain := row.at.store(), row.at.fil(), pointed(row.plain)
		if len(plain) != f.Size {
			t.Fatalf("%s: %d bytes of %d", row.why, len(plain), f.Size)
		}
		for _, n := range []int{f.Size, f.Size + 1, 48, 49, 1000, math.MaxInt - 1, math.MaxInt} {
			wantFileRead(t, row.why, s, f, 0, n, plain[:min(n, f.Size)], true)
		}
		for _, off := range []int{f.Size, f.Size + 1, 48, 49, 1000, 1 << 32, math.MaxInt - 1, math.MaxInt} {
			for _, n := range []int{0, 1, 4, 48, math.MaxInt} {
				wantFileRead(t, row.why, s, f, off, n, plain[min(off, f.Size):], true)
			}
		}
		for _, low := range []int{-1, -4, -48, -1 << 32, math.MinInt + 1, math.MinInt} {
			for _, n := range []int{0, 1, 48, math.MaxInt, -1, low} {
				wantFileRead(t, row.why, s, f, low, n, "", false)
				wantFileRead(t, row.why, s, f, n, low, "", false)
			}
		}
	}
}

func TestFilReadAtEachPlace(t *testing.T) {
	for _, row := range rightFiles {
		s, f, plain := row.at.store(), row.at.fil(), pointed(row.plain)
		for off := range 51 {
			for n := range 51 {
				want := plain[min(off, len(plain)):min(off+n, len(plain))]
				if got, ok := impl.FilRead(s, f, off, n); !ok || got != want {
					t.Errorf("FilRead of %s at %d, %d = %q, %v, not %q", row.why, off, n, got, ok, want)
				}
			}
			for _, n := range []int{math.MaxInt, math.MaxInt - off, math.MaxInt - max(0, off-1), 1 << 32} {
				if got, ok := impl.FilRead(s, f, off, n); !ok || got != plain[min(off, len(plain)):] {
					t.Errorf("FilRead of %s at %d, %d = %q, %v", row.why, off, n, got, ok)
				}
			}
		}
	}
}

func TestFilReadInShort(t *testing.T) {
	p := picture{"..#....#...#............", "l:12..", 18, "hc..l......."}
	for _, row := range []struct {
		off, n int
		want   string
	}{
		{0, 4, "hhhh"}, {0, 1, "h"}, {3, 1, "h"}, {3, 2, "hc"}, {4, 4, "cccc"}, {5, 2, "cc"}, {7, 2, "c."}, {2, 8, "hhcccc.."}, {8, 8, "........"},
		{10, 3, "..."}, {15, 2, ".1"}, {14, 4, "..12"}, {16, 2, "12"}, {17, 1, "2"}, {17, 2, "2"}, {17, 99, "2"}, {18, 1, ""}, {18, 0, ""}, {0, 0, ""}, {9, 0, ""},
		{7, 11, "c........12"}, {7, math.MaxInt, "c........12"}, {19, 1, ""}, {0, 17, "hhhhcccc........1"},
	} {
		wantFileRead(t, "by hand", p.store(), p.fil(), row.off, row.n, pointed(row.want), true)
	}
}

// allNumbers has as many bytes as a file may have.
const allNumbers = "0123456789ABCDEF0123456789ABCDEF0123456789ABCDEF"

// writeRows are told by hand: what stood there, what is written, and what stands there then.
var writeRows = []struct {
	why  string
	from picture
	off  int
	data string
	to   picture
}{
	{"a byte into nothing", picture{noneTaken, "", 0, noFile}, 0, "1", picture{"#.......................", "a:1...", 1, "a..........."}},
	{"a block into nothing", picture{noneTaken, "", 0, noFile}, 0, "1234", picture{"#.......................", "a:1234", 4, "a..........."}},
	{"several blocks into nothing", picture{noneTaken, "", 0, noFile}, 0, "123456789", picture{"###.....................", "a:1234 b:5678 c:9...", 9, "abc........."}},
	{"behind the beginning of nothing", picture{noneTaken, "", 0, noFile}, 6, "123", picture{"##......................", "a:..12 b:3...", 9, ".ab........."}},
	{"at the beginning of a block behind nothing", picture{noneTaken, "", 0, noFile}, 8, "1", picture{"#.......................", "a:1...", 9, "..a........."}},
	{"the last byte", picture{noneTaken, "", 0, noFile}, 47, "1", picture{"#.......................", "a:...1", 48, "...........a"}},
	{"the last block", picture{noneTaken, "", 0, noFile}, 44, "1234", picture{"#.......................", "a:1234", 48, "...........a"}},
	{"all bytes", picture{noneTaken, "", 0, noFile}, 0, allNumbers, picture{"############............", "a:0123 b:4567 c:89AB d:CDEF e:0123 f:4567 g:89AB h:CDEF i:0123 j:4567 k:89AB l:CDEF", 48, "abcdefghijkl"}},
	{"all bytes but the first", picture{noneTaken, "", 0, noFile}, 1, allNumbers[1:], picture{"############............", "a:.123 b:4567 c:89AB d:CDEF e:0123 f:4567 g:89AB h:CDEF i:0123 j:4567 k:89AB l:CDEF", 48, "abcdefghijkl"}},
	{"in the midst of a block", picture{"##......................", "", 8, "ab.........."}, 1, "12", picture{"##......................", "a:a12a", 8, "ab.........."}},
	{"the first byte", picture{"##......................", "", 8, "ab.........."}, 0, "1", picture{"##......................", "a:1aaa", 8, "ab.........."}},
	{"the last byte of a block", picture{"##......................", "", 8, "ab.........."}, 3, "1", picture{"##......................", "a:aaa1", 8, "ab.........."}},
	{"the last byte of the file", picture{"##......................", "", 8, "ab.........."}, 7, "1", picture{"##......................", "b:bbb1", 8, "ab.........."}},
	{"over the end of a block", picture{"##......................", "", 8, "ab.........."}, 3, "12", picture{"##......................", "a:aaa1 b:2bbb", 8, "ab.........."}},
	{"over several blocks", picture{"###.....................", "", 12, "abc........."}, 2, "12345678", picture{"###.....................", "a:aa12 b:3456 c:78cc", 12, "abc........."}},
	{"just one block", picture{"###.....................", "", 12, "abc........."}, 4, "1234", picture{"###.....................", "b:1234", 12, "abc........."}},
	{"over blocks that do not stand side by side", picture{"..#....#...#............", "", 12, "hcl........."}, 3, "123456", picture{"..#....#...#............", "h:hhh1 c:2345 l:6lll", 12, "hcl........."}},
	{"at the end", picture{"##......................", "", 8, "ab.........."}, 8, "1", picture{"###.....................", "c:1...", 9, "abc........."}},
	{"at the end, in the midst of a block", picture{"##......................", "b:bb..", 6, "ab.........."}, 6, "1", picture{"##......................", "b:bb1.", 7, "ab.........."}},
	{"at the end, up to the end of the block", picture{"##......................", "b:bb..", 6, "ab.........."}, 6, "12", picture{"##......................", "b:bb12", 8, "ab.........."}},
	{"at the end, past the end of the block", picture{"##......................", "b:bb..", 6, "ab.........."}, 6, "123", picture{"###.....................", "b:bb12 c:3...", 9, "abc........."}},
	{"over the end", picture{"##......................", "b:bb..", 6, "ab.........."}, 5, "12", picture{"##......................", "b:b12.", 7, "ab.........."}},
	{"just up to the end", picture{"##......................", "b:bb..", 6, "ab.........."}, 4, "12", picture{"##......................", "b:12..", 6, "ab.........."}},
	{"behind the end, in its block", picture{"##......................", "b:b...", 5, "ab.........."}, 7, "1", picture{"##......................", "b:b..1", 8, "ab.........."}},
	{"behind the end, in the block behind it", picture{"##......................", "b:b...", 5, "ab.........."}, 9, "1", picture{"###.....................", "b:b... c:.1..", 10, "abc........."}},
	{"behind the end, with a hole between", picture{"##......................", "b:bb..", 6, "ab.........."}, 20, "12", picture{"###.....................", "b:bb.. c:12..", 22, "ab...c......"}},
	{"behind the end at the end of a block, with a hole between", picture{"##......................", "", 8, "ab.........."}, 14, "1", picture{"###.....................", "c:..1.", 15, "ab.c........"}},
	{"into a hole", picture{"##......................", "", 16, "a..b........"}, 5, "12", picture{"###.....................", "c:.12.", 16, "ac.b........"}},
	{"into the second one of a hole", picture{"##......................", "", 16, "a..b........"}, 11, "1", picture{"###.....................", "c:...1", 16, "a.cb........"}},
	{"over a hole", picture{"##......................", "", 16, "a..b........"}, 2, "123456789ABC", picture{"####....................", "a:aa12 c:3456 d:789A b:BCbb", 16, "acdb........"}},
	{"over each second one", picture{"###.....................", "", 20, "a.b.c......."}, 1, "123456789ABCDEFGHI", picture{"#####...................", "a:a123 d:4567 b:89AB e:CDEF c:GHIc", 20, "adbec......."}},
	{"a hole that joins what is around it", picture{"#.#.....................", "", 12, "a.c........."}, 4, "1234", picture{"###.....................", "b:1234", 12, "abc........."}},
	{"into a hole at the end, in its last block", picture{"#.......................", "", 7, "a..........."}, 5, "1", picture{"##......................", "b:.1..", 7, "ab.........."}},
	{"at the end of a hole", picture{"#.......................", "", 7, "a..........."}, 7, "1", picture{"##......................", "b:...1", 8, "ab.........."}},
	{"over the end of a wide hole", picture{"#.......................", "", 30, "a..........."}, 29, "12", picture{"##......................", "b:.12.", 31, "a......b...."}},
	{"bytes 0 into a hole", picture{"#.......................", "", 12, "a..........."}, 4, "....", picture{"##......................", "b:....", 12, "ab.........."}},
	{"bytes 0 over others", picture{"#.......................", "", 4, "a..........."}, 1, "..", picture{"#.......................", "a:a..a", 4, "a..........."}},
	{"bytes 0 behind the end", picture{"#.......................", "", 4, "a..........."}, 4, "..", picture{"##......................", "b:....", 6, "ab.........."}},
	{"what stands there already", picture{"##......................", "", 8, "ab.........."}, 2, "aabb", picture{"##......................", "", 8, "ab.........."}},
	{"free ones among taken ones", picture{"#.#.##.#................", "", 4, "a..........."}, 4, "123456789ABC", picture{"########................", "b:1234 d:5678 g:9ABC", 16, "abdg........"}},
	{"free ones among taken ones, parts of them", picture{"#.#.##.#................", "", 4, "a..........."}, 6, "1234567", picture{"########................", "b:..12 d:3456 g:7...", 13, "abdg........"}},
	{"free ones ahead of the file's own", picture{"...#....................", "", 4, "d..........."}, 2, "123456789A", picture{"##.#....................", "d:dd12 a:3456 b:789A", 12, "dab........."}},
	{"the last free ones", picture{"#.#####################.", "", 4, "a..........."}, 4, "12345", picture{"########################", "b:1234 x:5...", 9, "abx........."}},
	{"the last free one, for the one that lacks", picture{"#.######################", "", 12, "a.c........."}, 0, "123456789ABC", picture{"########################", "a:1234 b:5678 c:9ABC", 12, "abc........."}},
	{"none is free, in its own blocks", picture{"########################", "", 8, "ab.........."}, 3, "12", picture{"########################", "a:aaa1 b:2bbb", 8, "ab.........."}},
	{"none is free, at the end in its own block", picture{"########################", "b:b...", 5, "ab.........."}, 5, "123", picture{"########################", "b:b123", 8, "ab.........."}},
	{"over the greatest file", picture{"############............", "", 48, "abcdefghijkl"}, 44, "1234", picture{"############............", "l:1234", 48, "abcdefghijkl"}},
	{"the last byte of the greatest file", picture{"############............", "", 48, "abcdefghijkl"}, 47, "1", picture{"############............", "l:lll1", 48, "abcdefghijkl"}},
	{"up to the greatest end", picture{"############............", "l:ll..", 46, "abcdefghijkl"}, 45, "123", picture{"############............", "l:l123", 48, "abcdefghijkl"}},
}

func TestFilWriteByHand(t *testing.T) {
	for _, row := range writeRows {
		wantFileWrite(t, row.why, row.from.store(), row.from.fil(), row.off, pointed(row.data), row.to.store(), row.to.fil(), true)
	}
}

// refusedWrites change nothing, of files that are right.
var refusedWrites = []struct {
	why  string
	at   picture
	off  int
	data string
}{
	{"an off below 0", picture{"##......................", "", 8, "ab.........."}, -1, "1"},
	{"an off below 0, and an end in the file", picture{"##......................", "", 8, "ab.........."}, -1, "12345"},
	{"an off below 0, and nothing to write", picture{"##......................", "", 8, "ab.........."}, -1, ""},
	{"the least off", picture{"##......................", "", 8, "ab.........."}, math.MinInt, "1"},
	{"the least off, and nothing to write", picture{"##......................", "", 8, "ab.........."}, math.MinInt, ""},
	{"an end that is past the greatest by one", picture{"##......................", "", 8, "ab.........."}, 48, "1"},
	{"an end that is past the greatest by one, two bytes", picture{"##......................", "", 8, "ab.........."}, 47, "12"},
	{"an end that is past the greatest by one, a block", picture{"##......................", "", 8, "ab.........."}, 45, "1234"},
	{"one byte more than a file may have", picture{noneTaken, "", 0, noFile}, 0, allNumbers + "0"},
	{"as many as a file may have, from the second one on", picture{noneTaken, "", 0, noFile}, 1, allNumbers},
	{"one byte more, over the greatest file", picture{"############............", "", 48, "abcdefghijkl"}, 0, allNumbers + "0"},
	{"at the end of the greatest file", picture{"############............", "", 48, "abcdefghijkl"}, 48, "1"},
	{"many bytes", picture{"##......................", "", 8, "ab.........."}, 0, strings.Repeat("1", 70000)},
	{"many bytes at an off below 0", picture{"##......................", "", 8, "ab.........."}, -69999, strings.Repeat("1", 70000)},
	{"far behind", picture{"##......................", "", 8, "ab.........."}, 1 << 32, "1"},
	{"the greatest off", picture{"##......................", "", 8, "ab.........."}, math.MaxInt, "1"},
	{"an end that is the greatest int", picture{"##......................", "", 8, "ab.........."}, math.MaxInt - 1, "1"},
	{"an end that goes round", picture{"##......................", "", 8, "ab.........."}, math.MaxInt - 2, "1234"},
	{"none is free", picture{"########################", "", 4, "a..........."}, 4, "1"},
	{"none is free, over the end", picture{"########################", "", 4, "a..........."}, 3, "12"},
	{"none is free, a hole", picture{"########################", "", 12, "a.b........."}, 5, "1"},
	{"none is free, from a block into a hole", picture{"########################", "", 12, "a.b........."}, 0, "12345"},
	{"none is free, from a hole into a block", picture{"########################", "", 12, "a.b........."}, 7, "12"},
	{"none is free, bytes 0", picture{"########################", "", 4, "a..........."}, 4, "."},
	{"one too few at the end", picture{"####################.###", "", 4, "a..........."}, 4, "12345"},
	{"one too few in holes", picture{"##.#####################", "", 20, "a.b........."}, 0, "123456789ABCDEF"},
	{"one too few of several", picture{"#.#.#.###.##############", "", 4, "a..........."}, 0, "123456789ABCDEF0123456"},
	{"one too few for all bytes", picture{"#############...........", "", 0, noFile}, 0, allNumbers},
}

func wantFileWriteRefused(t *testing.T, why string, s impl.Store, f impl.Fil, off int, data string) {
	t.Helper()
	wantFileWrite(t, why, s, f, off, data, s, f, false)
}

func wantFileCutRefused(t *testing.T, why string, s impl.Store, f impl.Fil, size int) {
	t.Helper()
	wantFileCut(t, why, s, f, size, s, f, false)
}

func TestFilWriteRefused(t *testing.T) {
	for _, row := range refusedWrites {
		wantFileWriteRefused(t, row.why, row.at.store(), row.at.fil(), row.off, pointed(row.data))
	}
}

func TestFilWriteOfNothing(t *testing.T) {
	for _, row := range rightFiles {
		s, f := row.at.store(), row.at.fil()
		for _, off := range []int{0, 1, 4, 5, f.Size, 47, 48} {
			wantFileWrite(t, row.why, s, f, off, "", s, f, true)
		}
		for _, off := range []int{49, 52, 1000, 1 << 32, math.MaxInt - 1, math.MaxInt, -1, -4, math.MinInt} {
			wantFileWriteRefused(t, row.why, s, f, off, "")
		}
	}
}

// So many blocks are free, and so many lack: each number of both.
func TestFilWriteByHowManyAreFree(t *testing.T) {
	for free := range 15 {
		p := picture{strings.Repeat("#", bitsInMap-free) + strings.Repeat(".", free), "", 0, noFile}
		for n := range 49 {
			s, f := p.store(), p.fil()
			got, file, ok := impl.FilWrite(s, f, 0, allNumbers[:n])
			blocks := (n + 3) / 4
			if ok != (blocks <= free) {
				t.Errorf("FilWrite of %d bytes where %d blocks are free = %v", n, free, ok)
			}
			if !ok {
				blocks, n = 0, 0
			}
			if file.Size != n || textOfMap(got.Bits) != strings.Repeat("#", bitsInMap-free+blocks)+strings.Repeat(".", free-blocks) {
				t.Errorf("FilWrite of %d bytes where %d blocks are free = %s %s", n, free, shownStore(got), shownFil(file))
			}
		}
	}
}

// All bytes that there are go into a file and come out of it.
func TestFilWriteOfAnyBytes(t *testing.T) {
	for from := 0; from < 256; from += 40 {
		var data []byte
		for i := range 40 {
			data = append(data, byte(from+i))
		}
		s, f, ok := impl.FilWrite(impl.NewStore(), impl.Fil{}, 5, string(data))
		if got, read := impl.FilRead(s, f, 0, 48); !ok || !read || got != "\x00\x00\x00\x00\x00"+string(data) {
			t.Errorf("%q is read as %q", data, got)
		}
	}
}

func TestFilWriteAtEachPlace(t *testing.T) {
	for _, row := range rightFiles {
		s, f := row.at.store(), row.at.fil()
		for off := -1; off <= 49; off++ {
			for _, n := range []int{0, 1, 2, 3, 4, 5, 7, 8, 9, 13, 21, 40, 44, 46, 47, 48, 49} {
				data := (allNumbers + "!")[:n]
				got, file, ok := impl.FilWrite(s, f, off, data)
				wantS, wantF, wantOk := writeFileByWords(s, f, off, data)
				if ok != wantOk || !sameStore(got, wantS) || !sameFil(file, wantF) {
					t.Fatalf("FilWrite of %s at %d of %q\n is   %s %s %v\n want %s %s %v", row.why, off, data, shownStore(got), shownFil(file), ok, shownStore(wantS), shownFil(wantF), wantOk)
				}
			}
		}
		for _, off := range append(oddPlaces(), farNumbers...) {
			if got, file, ok := impl.FilWrite(s, f, off, "123"); ok && (off < 0 || off > 45) || !ok && (!sameStore(got, s) || !sameFil(file, f)) {
				t.Errorf("FilWrite of %s at %d = %s %s %v", row.why, off, shownStore(got), shownFil(file), ok)
			}
		}
	}
}

// cutRows are told by hand: what stood there, the Size, and what stands there then.
var cutRows = []struct {
	why  string
	from picture
	size int
	to   picture
}{
	{"nothing to nothing", picture{noneTaken, "", 0, noFile}, 0, picture{noneTaken, "", 0, noFile}},
	{"nothing to one byte", picture{noneTaken, "", 0, noFile}, 1, picture{noneTaken, "", 1, noFile}},
	{"nothing to the greatest", picture{noneTaken, "", 0, noFile}, 48, picture{noneTaken, "", 48, noFile}},
	{"nothing to the greatest, where none is free", picture{"########################", "", 0, noFile}, 48, picture{"########################", "", 48, noFile}},
	{"a hole to nothing", picture{noneTaken, "", 48, noFile}, 0, picture{noneTaken, "", 0, noFile}},
	{"to nothing", picture{"##......................", "", 8, "ab.........."}, 0, picture{noneTaken, "", 0, noFile}},
	{"to nothing, the bytes stay", picture{"##......................", "a:1.2. b:3...", 5, "ab.........."}, 0, picture{noneTaken, "a:1.2. b:3...", 0, noFile}},
	{"to nothing, other ones stay taken", picture{"###.#...................", "", 8, "ca.........."}, 0, picture{".#..#...................", "", 0, noFile}},
	{"to one byte", picture{"##......................", "", 8, "ab.........."}, 1, picture{"#.......................", "a:a...", 1, "a..........."}},
	{"in the midst of the first block", picture{"##......................", "", 8, "ab.........."}, 3, picture{"#.......................", "a:aaa.", 3, "a..........."}},
	{"at the end of the first block", picture{"##......................", "", 8, "ab.........."}, 4, picture{"#.......................", "", 4, "a..........."}},
	{"behind the first byte of the second block", picture{"##......................", "", 8, "ab.........."}, 5, picture{"##......................", "b:b...", 5, "ab.........."}},
	{"in the midst of the last block", picture{"##......................", "", 8, "ab.........."}, 6, picture{"##......................", "b:bb..", 6, "ab.........."}},
	{"ahead of the last byte", picture{"##......................", "", 8, "ab.........."}, 7, picture{"##......................", "b:bbb.", 7, "ab.........."}},
	{"at Size", picture{"##......................", "", 8, "ab.........."}, 8, picture{"##......................", "", 8, "ab.........."}},
	{"at Size in the midst of a block", picture{"##......................", "b:bb..", 6, "ab.........."}, 6, picture{"##......................", "b:bb..", 6, "ab.........."}},
	{"in the midst of a block that ends in its midst", picture{"##......................", "b:bbb.", 7, "ab.........."}, 5, picture{"##......................", "b:b...", 5, "ab.........."}},
	{"above Size, in its block", picture{"##......................", "b:bb..", 6, "ab.........."}, 7, picture{"##......................", "b:bb..", 7, "ab.........."}},
	{"above Size, up to the end of its block", picture{"##......................", "b:bb..", 6, "ab.........."}, 8, picture{"##......................", "b:bb..", 8, "ab.........."}},
	{"above Size, in the block behind it", picture{"##......................", "b:bb..", 6, "ab.........."}, 9, picture{"##......................", "b:bb..", 9, "ab.........."}},
	{"above Size at the end of a block", picture{"##......................", "", 8, "ab.........."}, 9, picture{"##......................", "", 9, "ab.........."}},
	{"far above Size", picture{"##......................", "b:b...", 5, "ab.........."}, 33, picture{"##......................", "b:b...", 33, "ab.........."}},
	{"to the greatest Size", picture{"##......................", "b:b...", 5, "ab.........."}, 48, picture{"##......................", "b:b...", 48, "ab.........."}},
	{"the greatest by one byte", picture{"############............", "", 48, "abcdefghijkl"}, 47, picture{"############............", "l:lll.", 47, "abcdefghijkl"}},
	{"the greatest by a block", picture{"############............", "", 48, "abcdefghijkl"}, 44, picture{"###########.............", "", 44, "abcdefghijk."}},
	{"the greatest to its half", picture{"############............", "", 48, "abcdefghijkl"}, 22, picture{"######..................", "f:ff..", 22, "abcdef......"}},
	{"the greatest as it is", picture{"############............", "", 48, "abcdefghijkl"}, 48, picture{"############............", "", 48, "abcdefghijkl"}},
	{"the last block has none", picture{"##......................", "", 20, "a...b......."}, 10, picture{"#.......................", "", 10, "a..........."}},
	{"the last block has none, at the end of one", picture{"##......................", "", 20, "a...b......."}, 8, picture{"#.......................", "", 8, "a..........."}},
	{"the last block has none, as it is", picture{"#.......................", "", 6, "a..........."}, 6, picture{"#.......................", "", 6, "a..........."}},
	{"the last block has none, and stays", picture{"#.......................", "", 7, "a..........."}, 5, picture{"#.......................", "", 5, "a..........."}},
	{"the last block has none, and grows", picture{"#.......................", "", 6, "a..........."}, 7, picture{"#.......................", "", 7, "a..........."}},
	{"a hole ahead, in the midst of the block", picture{"#.......................", "", 8, ".a.........."}, 5, picture{"#.......................", "a:a...", 5, ".a.........."}},
	{"a hole ahead, in the midst of the hole", picture{"#.......................", "", 8, ".a.........."}, 3, picture{noneTaken, "", 3, noFile}},
	{"in the midst of blocks side by side", picture{".######.................", "", 24, "bcdefg......"}, 11, picture{".###....................", "d:ddd.", 11, "bcd........."}},
	{"at the end of blocks side by side", picture{".######.................", "", 24, "bcdefg......"}, 12, picture{".###....................", "", 12, "bcd........."}},
	{"blocks the other way round", picture{"###.....................", "", 12, "cba........."}, 6, picture{".##.....................", "b:bb..", 6, "cb.........."}},
	{"blocks far from each other", picture{"..#....#...#...........#", "", 16, "hclx........"}, 7, picture{"..#....#................", "c:ccc.", 7, "hc.........."}},
	{"none is free", picture{"########################", "", 8, "ab.........."}, 2, picture{"#.######################", "a:aa..", 2, "a..........."}},
}

func TestFilCutByHand(t *testing.T) {
	for _, row := range cutRows {
		wantFileCut(t, row.why, row.from.store(), row.from.fil(), row.size, row.to.store(), row.to.fil(), true)
	}
	for _, row := range rightFiles {
		s, f := row.at.store(), row.at.fil()
		for _, size := range []int{-1, -4, -48, -1 << 32, math.MinInt, math.MinInt + 1, 49, 50, 52, 1000, 1 << 32, 1<<32 + 4, math.MaxInt - 3, math.MaxInt} {
			wantFileCutRefused(t, row.why, s, f, size)
		}
	}
}

func TestFilCutAtEachPlace(t *testing.T) {
	for _, row := range rightFiles {
		s, f, plain := row.at.store(), row.at.fil(), pointed(row.plain)
		for size := range 49 {
			wantS, wantF, ok := cutFileByWords(s, f, size)
			wantFileCut(t, row.why, s, f, size, wantS, wantF, ok)
			cut, file, _ := impl.FilCut(s, f, size)
			cut, file, ok = impl.FilCut(cut, file, 48)
			want := plain[:min(size, len(plain))]
			want += strings.Repeat("\x00", 48-len(want))
			if got, read := impl.FilRead(cut, file, 0, 48); !ok || !read || got != want {
				t.Errorf("FilCut of %s at %d, then 48: %q, %v, not %q", row.why, size, got, ok, want)
			}
		}
		for _, size := range append(oddPlaces(), farNumbers...) {
			if got, file, ok := impl.FilCut(s, f, size); ok != (size >= 0 && size <= 48) || !ok && (!sameStore(got, s) || !sameFil(file, f)) {
				t.Errorf("FilCut of %s at %d = %s %s %v", row.why, size, shownStore(got), shownFil(file), ok)
			}
		}
	}
}

// A block that was freed keeps its bytes, and one that is taken again has none of them.
func TestFilCutAndWriteAgain(t *testing.T) {
	p := picture{"##......................", "", 8, "ab.........."}
	s, f, _ := impl.FilCut(p.store(), p.fil(), 2)
	if want := (picture{"#.......................", "a:aa..", 2, "a..........."}); !sameStore(s, want.store()) || !sameFil(f, want.fil()) {
		t.Error("cut", shownStore(s), shownFil(f))
	}
	s, f, _ = impl.FilCut(s, f, 8)
	if got, ok := impl.FilRead(s, f, 0, 8); !ok || got != "aa\x00\x00\x00\x00\x00\x00" {
		t.Errorf("grown again: %q", got)
	}
	s, f, _ = impl.FilWrite(s, f, 5, "1")
	if want := (picture{"##......................", "a:aa.. b:.1..", 8, "ab.........."}); !sameStore(s, want.store()) || !sameFil(f, want.fil()) {
		t.Error("written again", shownStore(s), shownFil(f))
	}
	if got, ok := impl.FilRead(s, f, 0, 8); !ok || got != pointed("aa...1..") {
		t.Errorf("written again: %q", got)
	}
}

// Of a file or a store that is not right, nothing is read, and all is handed back.
func TestFilesThatAreNotRight(t *testing.T) {
	ask := func(why string, s impl.Store, f impl.Fil) {
		t.Helper()
		for _, n := range []int{0, 1, 4, 48, -1, math.MaxInt} {
			wantFileRead(t, why, s, f, 0, n, "", false)
			wantFileRead(t, why, s, f, n, 1, "", false)
			wantFileCutRefused(t, why, s, f, n)
			wantFileWriteRefused(t, why, s, f, n, "1")
			wantFileWriteRefused(t, why, s, f, n, "")
		}
		wantFileWriteRefused(t, why, s, f, 0, allNumbers)
	}
	for _, row := range notRightFiles {
		ask(row.why, row.at.store(), row.at.fil())
	}
	for why, s := range notRightStores() {
		ask(why, s, impl.Fil{})
		ask(why, s, impl.Fil{Size: 8, Exts: extsAt(0, 0, 2)})
		ask(why, s, impl.Fil{Size: -1, Exts: extsAt(0, 0, 0)})
	}
	s := picture{bits: "########################", file: noFile}.store()
	for _, row := range brokenExts {
		ask(row.why, s, impl.Fil{Size: 48, Exts: row.exts})
	}
}

// bytes has some that are 0, also at its ends.
func (s *steady) bytes(n int) string {
	out := make([]byte, n)
	for i := range out {
		if s.below(3) > 0 {
			out[i] = byte(s.below(256))
		}
	}
	return string(out)
}

// storeAndFile has a right file: blocks here and there, and others that are taken, few or nearly all.
func (s *steady) storeAndFile() (impl.Store, impl.Fil) {
	l := s.exts()
	store := impl.NewStore()
	crowd := s.below(9)
	for i := range bitsInMap {
		store.Bits[i] = s.below(8) < crowd
		store.Data[i] = s.bytes(bytesInBlock)
	}
	m, end := mapByWords(l), 0
	for i, block := range m {
		if block >= 0 {
			store.Bits[block] = true
			end = i + 1
		}
	}
	size := s.below(bytesInFile + 1)
	if lowest := end*bytesInBlock - 3; end > 0 && (size < lowest || s.below(2) == 0) {
		size = lowest + s.below(bytesInBlock)
	}
	if end > 0 && size < end*bytesInBlock {
		for at := size % bytesInBlock; at < bytesInBlock; at++ {
			setByte(store.Data, m[end-1], at, 0)
		}
	}
	return store, impl.Fil{Size: size, Exts: l}
}

// brokenStoreOrFile changes one thing, so that most are not right any more.
func (s *steady) brokenStoreOrFile(store impl.Store, f impl.Fil) (impl.Store, impl.Fil) {
	store = cloneStore(store)
	switch s.below(7) {
	case 0:
		f.Size += s.below(9) - 4
	case 1:
		f.Exts = s.brokenAt(f.Exts)
	case 2:
		at := s.below(bitsInMap)
		store.Bits[at] = !store.Bits[at]
	case 3:
		setByte(store.Data, s.below(bitsInMap), s.below(bytesInBlock), 7)
	case 4:
		f.Size -= f.Size % bytesInBlock
	case 5:
		store.Data[s.below(bitsInMap)] = s.bytes(3 + 2*s.below(2))
	case 6:
		store.Bits = store.Bits[:bitsInMap-1]
	}
	return store, f
}

func TestFilesByTheWordsAtMany(t *testing.T) {
	s := steady{71}
	right, broken, full := 0, 0, 0
	for range 6000 {
		store, f := s.storeAndFile()
		if !fileRightByWords(store, f) {
			t.Fatalf("%s is not right in %s", shownFil(f), shownStore(store))
		}
		if s.below(4) == 0 {
			store, f = s.brokenStoreOrFile(store, f)
		}
		ok := fileRightByWords(store, f)
		if ok {
			right++
		} else {
			broken++
		}
		wantStoreOk(t, "many", store, storeRightByWords(store))
		wantFilOk(t, "many", store, f, ok)
		off, n := s.below(51)-1, s.below(51)-1
		data := s.bytes(s.below(1 + s.below(50)))
		wantFileByWords(t, "many", store, f, off, n, data)
		if _, _, written := writeFileByWords(store, f, off, data); ok && !written && off >= 0 && off+len(data) <= bytesInFile {
			full++
		}
	}
	if right < 4000 || broken < 700 || full < 200 {
		t.Errorf("%d right, %d not, %d without room", right, broken, full)
	}
}

// smallStates has each file of two or three file blocks in a store whose first blocks are taken or free, of few sizes.
func smallStates() []picture {
	var out []picture
	for _, m := range smallFiles(0, 0, 3) {
		for others := range 4 {
			bits := []byte(noneTaken)
			for i, block := range m {
				if block >= 0 {
					bits[block] = '#'
				}
				if i < 2 && others>>i&1 == 1 {
					bits[2*i+1] = '#'
				}
			}
			for size := range 14 {
				out = append(out, picture{string(bits), "", size, m.text()})
			}
		}
	}
	return out
}

func TestFilesByTheWordsAtAllSmallOnes(t *testing.T) {
	count := 0
	for _, p := range smallStates() {
		s, f := p.store(), p.fil()
		last := (f.Size - 1) / bytesInBlock
		if f.Size > 0 && mapByWords(f.Exts).has(last) {
			for at := f.Size; at < (last+1)*bytesInBlock; at++ {
				setByte(s.Data, mapByWords(f.Exts)[last], at%bytesInBlock, 0)
			}
		}
		ok := fileRightByWords(s, f)
		if got := impl.FilOk(s, f); got != ok {
			t.Errorf("FilOk of %s in %s = %v", shownFil(f), shownStore(s), got)
		}
		if !ok {
			continue
		}
		count++
		for off := range 14 {
			for _, n := range []int{1, 2, 4, 5, 9} {
				wantS, wantF, wantOk := writeFileByWords(s, f, off, allNumbers[:n])
				if got, file, ok := impl.FilWrite(s, f, off, allNumbers[:n]); ok != wantOk || !sameStore(got, wantS) || !sameFil(file, wantF) {
					t.Fatalf("FilWrite of %s in %s at %d, %d = %s %s %v", shownFil(f), shownStore(s), off, n, shownStore(got), shownFil(file), ok)
				}
				want, _ := readFileByWords(s, f, off, n)
				if got, ok := impl.FilRead(s, f, off, n); !ok || got != want {
					t.Fatalf("FilRead of %s in %s at %d, %d = %q, %v", shownFil(f), shownStore(s), off, n, got, ok)
				}
			}
			wantS, wantF, wantOk := cutFileByWords(s, f, off)
			if got, file, ok := impl.FilCut(s, f, off); ok != wantOk || !sameStore(got, wantS) || !sameFil(file, wantF) {
				t.Fatalf("FilCut of %s in %s at %d = %s %s %v", shownFil(f), shownStore(s), off, shownStore(got), shownFil(file), ok)
			}
		}
	}
	if count < 500 {
		t.Errorf("only %d right ones", count)
	}
}

// A plainFile is what a file should read as, and which file blocks were touched since they went.
type plainFile struct {
	text    string
	touched [blocksInFile]bool
}

func (p *plainFile) write(off int, data string) {
	if data == "" {
		return
	}
	end := off + len(data)
	if len(p.text) < end {
		p.text += strings.Repeat("\x00", end-len(p.text))
	}
	p.text = p.text[:off] + data + p.text[end:]
	for at := off; at < end; at++ {
		p.touched[at/bytesInBlock] = true
	}
}

func (p *plainFile) cut(size int) {
	if size > len(p.text) {
		p.text += strings.Repeat("\x00", size-len(p.text))
	}
	p.text = p.text[:size]
	for i := range p.touched {
		p.touched[i] = p.touched[i] && i*bytesInBlock < size
	}
}

// lacks tells how many blocks a write would need.
func (p *plainFile) lacks(off int, data string) int {
	next := *p
	next.write(off, data)
	return next.blocks() - p.blocks()
}

func (p *plainFile) blocks() int {
	n := 0
	for _, touched := range p.touched {
		if touched {
			n++
		}
	}
	return n
}

// wantPlain asks a file whether it reads as it should, and has just the blocks that it needs.
func wantPlain(t *testing.T, s impl.Store, f impl.Fil, p plainFile) {
	t.Helper()
	if !impl.FilOk(s, f) || f.Size != len(p.text) {
		t.Fatalf("%s in %s is not right, or not of %d bytes", shownFil(f), shownStore(s), len(p.text))
	}
	if got, ok := impl.FilRead(s, f, 0, math.MaxInt); !ok || got != p.text {
		t.Fatalf("%s in %s reads as %q, not %q", shownFil(f), shownStore(s), got, p.text)
	}
	for i, touched := range p.touched {
		if impl.BlockAt(f.Exts, i) >= 0 != touched {
			t.Fatalf("file block %d of %s: touched %v", i, shownFil(f), touched)
		}
	}
}

// wantOthersToStay asks that all blocks that are not the file's, neither ahead nor now, are as they were.
func wantOthersToStay(t *testing.T, before, after impl.Store, f, file impl.Fil) {
	t.Helper()
	own := append(impl.BlocksOf(f.Exts), impl.BlocksOf(file.Exts)...)
	for block := range bitsInMap {
		if !slices.Contains(own, block) && (before.Bits[block] != after.Bits[block] || before.Data[block] != after.Data[block]) {
			t.Fatalf("block %d is not as it was\n %s\n %s", block, shownStore(before), shownStore(after))
		}
	}
}

// Three files in one store are written and cut for long, and held against plain texts.
func TestFilesInOneStoreForLong(t *testing.T) {
	s := steady{72}
	store := impl.NewStore()
	var files [3]impl.Fil
	var plain [3]plainFile
	refused, cut, holes := 0, 0, 0
	for range 12000 {
		i := s.below(len(files))
		before, free := store, impl.FreeOf(store.Bits)
		var next impl.Fil
		var ok bool
		if s.below(4) == 0 {
			size := s.below(s.below(bytesInFile) + 2)
			store, next, ok = impl.FilCut(before, files[i], size)
			plain[i].cut(size)
			cut++
			if !ok {
				t.Fatal("a cut is refused")
			}
		} else {
			off := s.below(bytesInFile)
			data := s.bytes(s.below(min(20, bytesInFile-off) + 1))
			store, next, ok = impl.FilWrite(before, files[i], off, data)
			if ok != (plain[i].lacks(off, data) <= free) {
				t.Fatalf("%d free ones, %d lack: %v", free, plain[i].lacks(off, data), ok)
			}
			if ok {
				plain[i].write(off, data)
			} else {
				refused++
			}
		}
		wantOthersToStay(t, before, store, files[i], next)
		files[i] = next
		taken := 0
		for j := range files {
			wantPlain(t, store, files[j], plain[j])
			taken += plain[j].blocks()
			holes += len(files[j].Exts) / 3
		}
		if impl.FreeOf(store.Bits) != bitsInMap-taken {
			t.Fatalf("%d blocks are taken in %s", taken, shownStore(store))
		}
	}
	if refused < 300 || cut < 2000 || holes < 500 {
		t.Errorf("%d refused, %d cut, %d holes", refused, cut, holes)
	}
}

// A write or a cut of the one of two files leaves the other one, whichever that is, where their blocks stand one by one.
func TestTwoFilesInOneStore(t *testing.T) {
	p := picture{"########................", "g:gg.. h:h...", 14, "aceg........"}
	q := picture{p.bits, p.texts, 13, "bdfh........"}
	s, one, two := p.store(), p.fil(), q.fil()
	if !impl.FilOk(s, one) || !impl.FilOk(s, two) {
		t.Fatal("not right")
	}
	for n := range 49 {
		for _, pair := range [][2]impl.Fil{{one, two}, {two, one}} {
			mine, other := pair[0], pair[1]
			want, _ := impl.FilRead(s, other, 0, 48)
			cut, left, _ := impl.FilCut(s, mine, n)
			if got, ok := impl.FilRead(cut, other, 0, 48); !ok || got != want {
				t.Errorf("cut at %d: the other one reads as %q", n, got)
			}
			wantOthersToStay(t, s, cut, mine, left)
			written, more, ok := impl.FilWrite(cut, left, n, allNumbers[n:])
			if got, read := impl.FilRead(written, other, 0, 48); !ok || !read || got != want {
				t.Errorf("cut and written at %d: the other one reads as %q", n, got)
			}
			wantOthersToStay(t, cut, written, left, more)
			if got, _ := impl.FilRead(written, more, n, 48); got != allNumbers[n:] {
				t.Errorf("cut and written at %d: %q", n, got)
			}
		}
	}
}
