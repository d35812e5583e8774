package tests

import (
	"math"
	"slices"
	"strings"
	"testing"

	"loop.example/g00773/impl"
)

// blocksInFile stands here as the document has it.
const blocksInFile = 12

// extsAt has extents: At, Block, Len, At, Block, Len and so on.
func extsAt(numbers ...int) []impl.Ext {
	var l []impl.Ext
	for i := 0; i < len(numbers); i += 3 {
		l = append(l, impl.Ext{At: numbers[i], Block: numbers[i+1], Len: numbers[i+2]})
	}
	return l
}

// A fileMap has the block of each file block, or -1.
type fileMap [blocksInFile]int

// fileOf has a file block a sign: a is block 0, x is block 23, and a point is none.
func fileOf(text string) fileMap {
	if len(text) != blocksInFile {
		panic("no file: " + text)
	}
	var m fileMap
	for i := range m {
		m[i] = -1
		if text[i] != '.' {
			m[i] = int(text[i] - 'a')
		}
	}
	return m
}

func (m fileMap) text() string {
	var out strings.Builder
	for _, block := range m {
		if block < 0 {
			out.WriteByte('.')
		} else {
			out.WriteByte(byte('a' + block))
		}
	}
	return out.String()
}

// In the document's words.

// extsRightByWords asks each block by itself and ends at the first one that is none, so that no number of it goes round.
func extsRightByWords(l []impl.Ext) bool {
	seen := map[int]struct{}{}
	for _, e := range l {
		if e.Len < 1 {
			return false
		}
		for j := 0; j < e.Len; j++ {
			at, block := e.At+j, e.Block+j
			_, twice := seen[block]
			if at < 0 || at >= blocksInFile || block < 0 || block >= bitsInMap || twice {
				return false
			}
			seen[block] = struct{}{}
		}
	}
	for i := 1; i < len(l); i++ {
		ahead, e := l[i-1], l[i]
		if e.At < ahead.At+ahead.Len {
			return false
		}
		if e.At == ahead.At+ahead.Len && e.Block == ahead.Block+ahead.Len {
			return false
		}
	}
	return true
}

// mapByWords is asked of right extents.
func mapByWords(l []impl.Ext) fileMap {
	m := fileOf("............")
	for _, e := range l {
		for j := range e.Len {
			m[e.At+j] = e.Block + j
		}
	}
	return m
}

func (m fileMap) has(i int) bool { return i >= 0 && i < blocksInFile && m[i] >= 0 }

func (m fileMap) goesOnAt(i int) bool { return m.has(i-1) && m.has(i) && m[i] == m[i-1]+1 }

// exts takes of all file blocks side by side those that go on and could not be more: there is one way to write a file as right extents.
func (m fileMap) exts() []impl.Ext {
	var out []impl.Ext
	for at := range blocksInFile {
		if !m.has(at) || m.goesOnAt(at) {
			continue
		}
		n := 1
		for m.goesOnAt(at + n) {
			n++
		}
		out = append(out, impl.Ext{At: at, Block: m[at], Len: n})
	}
	return out
}

func blockAtByWords(l []impl.Ext, i int) int {
	if !extsRightByWords(l) || i < 0 || i >= blocksInFile {
		return -1
	}
	return mapByWords(l)[i]
}

func putBlockByWords(l []impl.Ext, i, block int) ([]impl.Ext, bool) {
	if !extsRightByWords(l) {
		return nil, false
	}
	m := mapByWords(l)
	if i < 0 || i >= blocksInFile || m[i] != -1 || block < 0 || block >= bitsInMap || slices.Contains(m[:], block) {
		return l, false
	}
	m[i] = block
	return m.exts(), true
}

func cutByWords(l []impl.Ext, n int) ([]impl.Ext, []int) {
	if !extsRightByWords(l) {
		return nil, nil
	}
	m := mapByWords(l)
	var gone []int
	for i := range m {
		if i >= n && m[i] >= 0 {
			gone = append(gone, m[i])
			m[i] = -1
		}
	}
	return m.exts(), gone
}

func blocksByWords(l []impl.Ext) []int {
	_, out := cutByWords(l, 0)
	slices.Sort(out)
	return out
}

func TestExtentsByTheWordsThemselves(t *testing.T) {
	l := extsAt(2, 7, 2, 5, 9, 1)
	if !extsRightByWords(l) || mapByWords(l).text() != "..hi.j......" || !slices.Equal(fileOf("..hi.j......").exts(), l) {
		t.Error("map", mapByWords(l).text())
	}
	for i, want := range []int{-1, -1, 7, 8, -1, 9, -1, -1, -1, -1, -1, -1, -1} {
		if got := blockAtByWords(l, i); got != want {
			t.Error("at", i, got)
		}
	}
	if got, ok := putBlockByWords(l, 4, 3); !ok || !slices.Equal(got, extsAt(2, 7, 2, 4, 3, 1, 5, 9, 1)) {
		t.Error("put", got, ok)
	}
	if got, ok := putBlockByWords(l, 4, 9); ok || !slices.Equal(got, l) {
		t.Error("put", got, ok)
	}
	if got, gone := cutByWords(extsAt(2, 7, 2, 4, 3, 1, 5, 9, 1), 3); !slices.Equal(got, extsAt(2, 7, 1)) || !slices.Equal(gone, []int{8, 3, 9}) {
		t.Error("cut", got, gone)
	}
	if got := blocksByWords(extsAt(2, 7, 2, 4, 3, 1, 5, 9, 1)); !slices.Equal(got, []int{3, 7, 8, 9}) {
		t.Error("blocks", got)
	}
	for _, l := range [][]impl.Ext{extsAt(0, 0, 0), extsAt(11, 0, 2), extsAt(0, 23, 2), extsAt(0, 0, 1, 1, 1, 1), extsAt(0, 0, 2, 1, 5, 1), extsAt(0, 0, 2, 4, 1, 1), extsAt(4, 0, 1, 0, 5, 1)} {
		if extsRightByWords(l) {
			t.Error("right", l)
		}
	}
}

// extRooms has what may stand in the room behind l: what goes on from it, and what is not right.
func extRooms(l []impl.Ext) [][]impl.Ext {
	end := impl.Ext{}
	if len(l) > 0 {
		last := l[len(l)-1]
		end = impl.Ext{At: last.At + last.Len, Block: last.Block + last.Len, Len: 1}
	}
	var goesOn []impl.Ext
	for i := range 15 {
		goesOn = append(goesOn, impl.Ext{At: end.At + 2*i, Block: end.Block + i, Len: 1})
	}
	return [][]impl.Ext{goesOn, slices.Repeat(extsAt(-1, -1, -1), 15)}
}

// roomyExts has l with that room behind it, and tells whether both are as they were.
func roomyExts(l, room []impl.Ext) ([]impl.Ext, func() bool) {
	all := append(slices.Clone(l), room...)
	before := slices.Clone(all)
	return all[:len(l)], func() bool { return slices.Equal(all, before) }
}

// spoilExts writes over all memory of a list, the room behind it included.
func spoilExts(l []impl.Ext) {
	l = l[:cap(l)]
	for i := range l {
		l[i] = impl.Ext{At: -7, Block: -8, Len: -9}
	}
}

// wantExtsOk asks the words too, so that what is told by hand is held against them.
func wantExtsOk(t *testing.T, l []impl.Ext, want bool) {
	t.Helper()
	if extsRightByWords(l) != want {
		t.Fatalf("the words have %v of %v", !want, l)
	}
	for _, room := range extRooms(l) {
		given, left := roomyExts(l, room)
		if got := impl.ExtsOk(given); got != want {
			t.Errorf("ExtsOk of %v = %v", l, got)
		}
		if !left() {
			t.Errorf("ExtsOk of %v changed what was given", l)
		}
	}
}

func wantBlockAt(t *testing.T, l []impl.Ext, i, want int) {
	t.Helper()
	for _, room := range extRooms(l) {
		given, left := roomyExts(l, room)
		if got := impl.BlockAt(given, i); got != want {
			t.Errorf("BlockAt of %v and %d = %d, not %d", l, i, got, want)
		}
		if !left() {
			t.Errorf("BlockAt of %v and %d changed what was given", l, i)
		}
	}
}

// wantPutBlock asks the answer, that what was given is left, and that they share nothing, whichever of both is changed.
func wantPutBlock(t *testing.T, l []impl.Ext, i, block int, want []impl.Ext, ok bool) {
	t.Helper()
	want = slices.Clone(want)
	for _, room := range extRooms(l) {
		given, left := roomyExts(l, room)
		got, gotOk := impl.PutBlock(given, i, block)
		if gotOk != ok || !slices.Equal(got, want) {
			t.Errorf("PutBlock of %v, %d, %d = %v, %v, not %v, %v", l, i, block, got, gotOk, want, ok)
		}
		if !left() {
			t.Errorf("PutBlock of %v, %d, %d changed what was given", l, i, block)
		}
		before := slices.Clone(got)
		spoilExts(given)
		if !slices.Equal(got, before) {
			t.Errorf("PutBlock of %v, %d, %d keeps what was given", l, i, block)
		}
		given, left = roomyExts(l, room)
		got, _ = impl.PutBlock(given, i, block)
		spoilExts(got)
		if !left() {
			t.Errorf("PutBlock of %v, %d, %d shares memory with what was given", l, i, block)
		}
		if again, _ := impl.PutBlock(given, i, block); !slices.Equal(again, want) {
			t.Errorf("PutBlock of %v, %d, %d = %v behind a change of its answer", l, i, block, again)
		}
	}
}

func wantPutBlockRefused(t *testing.T, l []impl.Ext, i, block int) {
	t.Helper()
	wantPutBlock(t, l, i, block, l, false)
}

// wantCut asks of both lists of the answer that they share nothing with what was given, nor one with the other.
func wantCut(t *testing.T, l []impl.Ext, n int, want []impl.Ext, gone []int) {
	t.Helper()
	want, gone = slices.Clone(want), slices.Clone(gone)
	for _, room := range extRooms(l) {
		given, left := roomyExts(l, room)
		got, gotGone := impl.CutAt(given, n)
		if !slices.Equal(got, want) || !slices.Equal(gotGone, gone) {
			t.Errorf("CutAt of %v and %d = %v, %v, not %v, %v", l, n, got, gotGone, want, gone)
		}
		if !left() {
			t.Errorf("CutAt of %v and %d changed what was given", l, n)
		}
		before, goneBefore := slices.Clone(got), slices.Clone(gotGone)
		spoilExts(given)
		if !slices.Equal(got, before) || !slices.Equal(gotGone, goneBefore) {
			t.Errorf("CutAt of %v and %d keeps what was given", l, n)
		}
		spoilSigns(gotGone)
		if !slices.Equal(got, before) {
			t.Errorf("CutAt of %v and %d has two lists that share memory", l, n)
		}
		given, left = roomyExts(l, room)
		got, gotGone = impl.CutAt(given, n)
		spoilExts(got)
		if !left() || !slices.Equal(gotGone, goneBefore) {
			t.Errorf("CutAt of %v and %d shares memory with what was given, or with its own other list", l, n)
		}
		if again, goneAgain := impl.CutAt(given, n); !slices.Equal(again, want) || !slices.Equal(goneAgain, gone) {
			t.Errorf("CutAt of %v and %d = %v, %v behind a change of its answer", l, n, again, goneAgain)
		}
	}
}

func wantBlocksOf(t *testing.T, l []impl.Ext, want []int) {
	t.Helper()
	for _, room := range extRooms(l) {
		given, left := roomyExts(l, room)
		got := impl.BlocksOf(given)
		if !slices.Equal(got, want) {
			t.Errorf("BlocksOf of %v = %v, not %v", l, got, want)
		}
		spoilSigns(got)
		if again := impl.BlocksOf(given); !slices.Equal(again, want) {
			t.Errorf("BlocksOf of %v = %v behind a change of its answer", l, again)
		}
		if !left() {
			t.Errorf("BlocksOf of %v changed what was given", l)
		}
	}
}

const noFile = "............"

// eachSecondBlock and allBackwards have as many extents as a file may have.
var eachSecondBlock = extsAt(0, 0, 1, 1, 2, 1, 2, 4, 1, 3, 6, 1, 4, 8, 1, 5, 10, 1, 6, 12, 1, 7, 14, 1, 8, 16, 1, 9, 18, 1, 10, 20, 1, 11, 22, 1)
var allBackwards = extsAt(0, 23, 1, 1, 22, 1, 2, 21, 1, 3, 20, 1, 4, 19, 1, 5, 18, 1, 6, 17, 1, 7, 16, 1, 8, 15, 1, 9, 14, 1, 10, 13, 1, 11, 12, 1)

// fileRows are right extents, and the files that they are, both told by hand.
var fileRows = []struct {
	why  string
	text string
	exts []impl.Ext
}{
	{"nothing", noFile, nil},
	{"one block, the first of both", "a...........", extsAt(0, 0, 1)},
	{"one block, the last of both", "...........x", extsAt(11, 23, 1)},
	{"the first file block, the last block", "x...........", extsAt(0, 23, 1)},
	{"the last file block, the first block", "...........a", extsAt(11, 0, 1)},
	{"one block in the midst", ".....h......", extsAt(5, 7, 1)},
	{"all file blocks, from the first block on", "abcdefghijkl", extsAt(0, 0, 12)},
	{"all file blocks, up to the last block", "mnopqrstuvwx", extsAt(0, 12, 12)},
	{"all file blocks, from a block in the midst", "ghijklmnopqr", extsAt(0, 6, 12)},
	{"one extent that ends with the file", "........qrst", extsAt(8, 16, 4)},
	{"one extent that ends with the file and the map", ".......tuvwx", extsAt(7, 19, 5)},
	{"one extent that ends one ahead of both", "......stuvw.", extsAt(6, 18, 5)},
	{"two with a gap, their blocks far from each other", "ab...mn.....", extsAt(0, 0, 2, 5, 12, 2)},
	{"two with a gap of one, whose blocks go on", "ab.cd.......", extsAt(0, 0, 2, 3, 2, 2)},
	{"two with a gap of one, whose blocks leave one out", "ab.de.......", extsAt(0, 0, 2, 3, 3, 2)},
	{"two with a wide gap, whose blocks go on", "ab.......cde", extsAt(0, 0, 2, 9, 2, 3)},
	{"two side by side whose blocks leave one out", "abde........", extsAt(0, 0, 2, 2, 3, 2)},
	{"two side by side whose blocks stand the other way round", "cdab........", extsAt(0, 2, 2, 2, 0, 2)},
	{"two side by side, the second one a block ahead of the first", "bca.........", extsAt(0, 1, 2, 2, 0, 1)},
	{"two single ones side by side, backwards", "ed..........", extsAt(0, 4, 1, 1, 3, 1)},
	{"two side by side at the ends of the map", "wxab........", extsAt(0, 22, 2, 2, 0, 2)},
	{"two side by side that fill the file", "abcdefmnopqr", extsAt(0, 0, 6, 6, 12, 6)},
	{"two side by side that fill the file and change places", "ghijklabcdef", extsAt(0, 6, 6, 6, 0, 6)},
	{"three side by side", "efabij......", extsAt(0, 4, 2, 2, 0, 2, 4, 8, 2)},
	{"three, the midst one far away", "abxcd.......", extsAt(0, 0, 2, 2, 23, 1, 3, 2, 2)},
	{"side by side and with a gap", "..hid.j.....", extsAt(2, 7, 2, 4, 3, 1, 6, 9, 1)},
	{"each second file block, and blocks that go on", "a.b.c.d.e.f.", extsAt(0, 0, 1, 2, 1, 1, 4, 2, 1, 6, 3, 1, 8, 4, 1, 10, 5, 1)},
	{"each second file block, and each second block", ".b.d.f.h.j.l", extsAt(1, 1, 1, 3, 3, 1, 5, 5, 1, 7, 7, 1, 9, 9, 1, 11, 11, 1)},
	{"each file block, each second block", "acegikmoqsuw", eachSecondBlock},
	{"each file block, all backwards", "xwvutsrqponm", allBackwards},
	{"pairs backwards", "klijghefcdab", extsAt(0, 10, 2, 2, 8, 2, 4, 6, 2, 6, 4, 2, 8, 2, 2, 10, 0, 2)},
	{"shorter and shorter", "fghij.abcdxw", extsAt(0, 5, 5, 6, 0, 4, 10, 23, 1, 11, 22, 1)},
}

// brokenExts have one thing wrong, told by hand.
var brokenExts = []struct {
	why  string
	exts []impl.Ext
}{
	{"the zero extent", extsAt(0, 0, 0)},
	{"a Len of 0", extsAt(3, 5, 0)},
	{"a Len of 0 at the end of the file", extsAt(11, 0, 0)},
	{"a Len of 0 behind the file", extsAt(12, 0, 0)},
	{"a Len of 0 behind the map", extsAt(0, 24, 0)},
	{"a Len below 0", extsAt(3, 5, -1)},
	{"a Len below 0 that leads back into the file", extsAt(12, 24, -1)},
	{"a Len below 0 that leads back to the beginning", extsAt(11, 11, -11)},
	{"the least Len", extsAt(0, 0, math.MinInt)},
	{"the least Len, from the end", extsAt(11, 23, math.MinInt)},
	{"an At below 0", extsAt(-1, 0, 1)},
	{"an At below 0 that leads into the file", extsAt(-1, 0, 2)},
	{"an At below 0 that leads through the file", extsAt(-1, 0, 13)},
	{"the least At", extsAt(math.MinInt, 0, 1)},
	{"the least At, and a Len that leads to the file", extsAt(math.MinInt, 0, math.MaxInt)},
	{"an At behind the file", extsAt(12, 0, 1)},
	{"the greatest At", extsAt(math.MaxInt, 0, 1)},
	{"past the file by one", extsAt(11, 0, 2)},
	{"past the file by one, from the beginning", extsAt(0, 0, 13)},
	{"past the file by one, up to the map's end", extsAt(7, 18, 6)},
	{"an At whose lower half is one", extsAt(1<<32+3, 0, 1)},
	{"a Block below 0", extsAt(0, -1, 1)},
	{"a Block below 0 that leads into the map", extsAt(0, -1, 2)},
	{"the least Block", extsAt(0, math.MinInt, 1)},
	{"a Block behind the map", extsAt(0, 24, 1)},
	{"the greatest Block", extsAt(0, math.MaxInt, 1)},
	{"past the map by one", extsAt(0, 23, 2)},
	{"past the map by one, all of a file", extsAt(0, 13, 12)},
	{"past both by one", extsAt(11, 23, 2)},
	{"a Block whose lower half is one", extsAt(0, 1<<32+3, 1)},
	{"a Block that is one in a word", extsAt(0, 64, 1)},
	{"the greatest Len", extsAt(0, 0, math.MaxInt)},
	{"the greatest Len, a sum that goes round", extsAt(1, 1, math.MaxInt)},
	{"a sum that is the greatest int", extsAt(1, 1, math.MaxInt-1)},
	{"a sum that goes round to a place in the file", extsAt(math.MaxInt, 0, math.MinInt+5)},
	{"sums of the greatest", extsAt(math.MaxInt, math.MaxInt, math.MaxInt)},
	{"sums of the least, that go round to nothing", extsAt(math.MinInt, math.MinInt, math.MinInt)},
	{"a Len whose lower half is one", extsAt(0, 0, 1<<32+1)},
	{"a Len that is a word", extsAt(0, 0, 64)},
	{"side by side, and the blocks go on", extsAt(0, 0, 1, 1, 1, 1)},
	{"side by side, and the blocks go on, both longer", extsAt(2, 5, 3, 5, 8, 4)},
	{"side by side, and the blocks go on, at both ends", extsAt(9, 21, 2, 11, 23, 1)},
	{"the second and the third go on", extsAt(0, 20, 1, 1, 0, 2, 3, 2, 2)},
	{"the first and the second go on", extsAt(0, 0, 2, 2, 2, 1, 3, 20, 2)},
	{"out of order", extsAt(4, 0, 1, 0, 5, 1)},
	{"out of order, side by side", extsAt(1, 5, 1, 0, 0, 1)},
	{"out of order, and the blocks go on backwards", extsAt(1, 1, 1, 0, 0, 1)},
	{"out of order, the first and the third of three", extsAt(4, 0, 1, 8, 5, 1, 0, 9, 1)},
	{"one twice", extsAt(3, 3, 2, 3, 3, 2)},
	{"one place twice, other blocks", extsAt(3, 3, 2, 3, 9, 2)},
	{"the same place of one block twice", extsAt(3, 3, 1, 3, 9, 1)},
	{"over each other by one in the file", extsAt(0, 0, 2, 1, 5, 1)},
	{"over each other by one in the file, where the blocks go on", extsAt(0, 0, 3, 2, 3, 2)},
	{"one within the other in the file", extsAt(0, 0, 6, 2, 9, 2)},
	{"the second one begins ahead and ends behind", extsAt(3, 0, 2, 2, 9, 6)},
	{"over each other by one in the blocks", extsAt(0, 0, 2, 4, 1, 1)},
	{"over each other by one in the blocks, the other way round", extsAt(0, 5, 2, 4, 3, 3)},
	{"one within the other in the blocks", extsAt(0, 0, 6, 8, 2, 2)},
	{"one around the other in the blocks", extsAt(0, 2, 2, 4, 0, 6)},
	{"the same blocks", extsAt(0, 4, 2, 4, 4, 2)},
	{"the same blocks, side by side", extsAt(0, 4, 2, 2, 4, 2)},
	{"the first block in both ends", extsAt(0, 0, 1, 11, 0, 1)},
	{"the last block in both ends", extsAt(0, 23, 1, 11, 23, 1)},
	{"a block of the first one in the third one", extsAt(0, 0, 3, 4, 10, 2, 8, 2, 2)},
	{"a right one, and the zero extent", extsAt(0, 0, 2, 0, 0, 0)},
	{"a right one, and a Len of 0 behind it", extsAt(0, 0, 2, 5, 5, 0)},
	{"a Len of 0 ahead of a right one", extsAt(0, 0, 0, 0, 0, 2)},
	{"a right one, and one that is past the file", extsAt(0, 0, 2, 11, 5, 2)},
	{"a right one, and one that is past the map", extsAt(0, 0, 2, 5, 23, 2)},
	{"one with a Block below 0 ahead of a right one", extsAt(0, -1, 1, 2, 5, 2)},
	{"one whose end goes round ahead of a right one", extsAt(0, 0, math.MaxInt, 4, 5, 1)},
	{"one that begins at the greatest int ahead of a right one", extsAt(math.MaxInt, 0, 1, 4, 5, 1)},
	{"one at the least int that another one stands behind", extsAt(math.MinInt, 0, 1, 4, 5, 1)},
	{"one more than a file may have", append(slices.Clone(eachSecondBlock), impl.Ext{At: 12, Block: 1, Len: 1})},
}

func TestTheRowsAreAsTheyAreTold(t *testing.T) {
	for _, row := range fileRows {
		if !slices.Equal(fileOf(row.text).exts(), row.exts) || mapByWords(row.exts).text() != row.text {
			t.Errorf("%s: %s has the extents %v", row.why, row.text, fileOf(row.text).exts())
		}
	}
	for _, row := range brokenExts {
		if extsRightByWords(row.exts) {
			t.Errorf("%s: %v is right", row.why, row.exts)
		}
	}
	if last := brokenExts[len(brokenExts)-1].exts; len(last) != 13 || !extsRightByWords(last[:12]) {
		t.Error("not one more than a file may have", last)
	}
}

func TestExtsOkByHand(t *testing.T) {
	if impl.MaxFileBlocks != blocksInFile {
		t.Fatal("MaxFileBlocks", impl.MaxFileBlocks)
	}
	wantExtsOk(t, []impl.Ext{}, true)
	for _, row := range fileRows {
		wantExtsOk(t, row.exts, true)
	}
	for _, row := range brokenExts {
		wantExtsOk(t, row.exts, false)
	}
}

func TestExtsOkOfOneExtent(t *testing.T) {
	for at := -2; at <= 14; at++ {
		for block := -2; block <= 26; block++ {
			for n := -2; n <= 27; n++ {
				want := n >= 1 && at >= 0 && at+n <= 12 && block >= 0 && block+n <= 24
				wantExtsOk(t, extsAt(at, block, n), want)
			}
		}
	}
}

func TestExtsOkOfFarNumbers(t *testing.T) {
	far := append(oddPlaces(), farNumbers...)
	for _, a := range far {
		for _, near := range []int{0, 1, 5, 11, 12} {
			for _, l := range [][]impl.Ext{
				extsAt(a, near, 1), extsAt(near, a, 1), extsAt(near, near, a), extsAt(a, a, near), extsAt(a, near, a), extsAt(near, a, a),
				extsAt(a, near, -a), extsAt(near, a, -a), extsAt(a, near, 12-a), extsAt(near, a, 24-a), extsAt(a, 24-a, a), extsAt(12-a, near, a),
				extsAt(0, 0, 1, a, 2, 1), extsAt(0, 0, 1, 2, a, 1), extsAt(0, 0, 1, 2, 2, a), extsAt(a, 0, 1, 5, 2, 1), extsAt(0, 0, a, 5, 20, 1),
			} {
				if got, want := impl.ExtsOk(l), extsRightByWords(l); got != want {
					t.Errorf("ExtsOk of %v = %v", l, got)
				}
			}
		}
	}
}

// someExts has each extent of some numbers at the ends of file and map, right and not right.
func someExts() []impl.Ext {
	var out []impl.Ext
	for _, at := range []int{-1, 0, 1, 2, 3, 9, 10, 11, 12} {
		for _, block := range []int{-1, 0, 1, 2, 3, 4, 21, 22, 23, 24} {
			for _, n := range []int{-1, 0, 1, 2, 3} {
				out = append(out, impl.Ext{At: at, Block: block, Len: n})
			}
		}
	}
	return out
}

func TestExtsOkOfEachTwo(t *testing.T) {
	some := someExts()
	right := 0
	for _, a := range some {
		for _, b := range some {
			l := []impl.Ext{a, b}
			want := extsRightByWords(l)
			if got := impl.ExtsOk(l); got != want {
				t.Errorf("ExtsOk of %v = %v", l, got)
			}
			if want {
				right++
			}
		}
	}
	if right < 500 {
		t.Errorf("only %d of them are right", right)
	}
}

func TestExtsOkOfEachThree(t *testing.T) {
	var some []impl.Ext
	for at := range 5 {
		for block := range 5 {
			some = append(some, impl.Ext{At: at, Block: block, Len: 1}, impl.Ext{At: at, Block: block, Len: 2})
		}
	}
	right := 0
	for _, a := range some {
		for _, b := range some {
			for _, c := range some {
				l := []impl.Ext{a, b, c}
				want := extsRightByWords(l)
				if got := impl.ExtsOk(l); got != want {
					t.Errorf("ExtsOk of %v = %v", l, got)
				}
				if want {
					right++
				}
			}
		}
	}
	if right < 200 {
		t.Errorf("only %d of them are right", right)
	}
}

// A second extent is moved past the first one, in the file and in the map.
func TestExtsOkOfTwoThatPass(t *testing.T) {
	for first := 1; first <= 4; first++ {
		for second := 1; second <= 4; second++ {
			for at := range blocksInFile - second + 1 {
				for block := range bitsInMap - second + 1 {
					inOrder := at >= 3+first
					apart := block >= 9+first || block+second <= 9
					goesOn := at == 3+first && block == 9+first
					wantExtsOk(t, extsAt(3, 9, first, at, block, second), inOrder && apart && !goesOn)
				}
			}
		}
	}
}

func TestExtsOkOfGreatLists(t *testing.T) {
	for _, e := range []impl.Ext{{}, {At: 0, Block: 0, Len: 1}, {At: 11, Block: 23, Len: 1}} {
		great := slices.Repeat([]impl.Ext{e}, 300000)
		if impl.ExtsOk(great) || impl.BlockAt(great, 0) != -1 || impl.BlocksOf(great) != nil {
			t.Errorf("a great list of %v is right", e)
		}
		if got, ok := impl.PutBlock(great, 1, 1); ok || len(got) != 0 {
			t.Errorf("PutBlock of a great list of %v = %v, %v", e, got, ok)
		}
	}
}

func TestBlockAtByHand(t *testing.T) {
	for _, row := range fileRows {
		m := fileOf(row.text)
		for i, block := range m {
			wantBlockAt(t, row.exts, i, block)
		}
		for _, i := range append(oddPlaces(), farNumbers...) {
			if i < 0 || i >= blocksInFile {
				wantBlockAt(t, row.exts, i, -1)
			}
		}
	}
}

func TestBlockAtOfWhatIsNotRight(t *testing.T) {
	for _, row := range brokenExts {
		for _, i := range append(oddPlaces(), farNumbers...) {
			wantBlockAt(t, row.exts, i, -1)
		}
	}
}

func TestPutBlockByHand(t *testing.T) {
	for _, row := range []struct {
		why      string
		text     string
		i, block int
		want     string
		exts     []impl.Ext
	}{
		{"the first of both, into nothing", noFile, 0, 0, "a...........", extsAt(0, 0, 1)},
		{"the last of both, into nothing", noFile, 11, 23, "...........x", extsAt(11, 23, 1)},
		{"one in the midst, into nothing", noFile, 4, 7, "....h.......", extsAt(4, 7, 1)},
		{"it goes on from the one ahead", "..hi........", 4, 9, "..hij.......", extsAt(2, 7, 3)},
		{"it goes on from a single one ahead", "..h.........", 3, 8, "..hi........", extsAt(2, 7, 2)},
		{"the one behind goes on from it", "..hi........", 1, 6, ".ghi........", extsAt(1, 6, 3)},
		{"the one behind goes on from it, up to the beginning", ".b..........", 0, 0, "ab..........", extsAt(0, 0, 2)},
		{"it goes on from the one ahead, up to the end", "..........w.", 11, 23, "..........wx", extsAt(10, 22, 2)},
		{"three become one", "..hi.k......", 4, 9, "..hijk......", extsAt(2, 7, 4)},
		{"three single ones become one", "....a.c.....", 5, 1, "....abc.....", extsAt(4, 0, 3)},
		{"three become one that fills the file", "abcdef.hijkl", 6, 6, "abcdefghijkl", extsAt(0, 0, 12)},
		{"three become one between others", "x.hi.kl.w.v.", 4, 9, "x.hijkl.w.v.", extsAt(0, 23, 1, 2, 7, 5, 8, 22, 1, 10, 21, 1)},
		{"it joins the one ahead, and the one behind stands beside", "..hi.m......", 4, 9, "..hijm......", extsAt(2, 7, 3, 5, 12, 1)},
		{"it joins the one behind, and the one ahead stands beside", "..hi.m......", 4, 11, "..hilm......", extsAt(2, 7, 2, 4, 11, 2)},
		{"side by side with both and with none in the blocks", "..hi.k......", 4, 3, "..hidk......", extsAt(2, 7, 2, 4, 3, 1, 5, 10, 1)},
		{"side by side with the one ahead, a block too far", "..hi........", 4, 10, "..hik.......", extsAt(2, 7, 2, 4, 10, 1)},
		{"side by side with the one ahead, a block ahead of its first", "..hi........", 4, 6, "..hig.......", extsAt(2, 7, 2, 4, 6, 1)},
		{"side by side with the one behind, a block too early", "..hi........", 1, 5, ".fhi........", extsAt(1, 5, 1, 2, 7, 2)},
		{"side by side with the one behind, a block behind its last", "..hi........", 1, 9, ".jhi........", extsAt(1, 9, 1, 2, 7, 2)},
		{"the blocks go on from the one ahead, with a gap in the file", "..hi........", 5, 9, "..hi.j......", extsAt(2, 7, 2, 5, 9, 1)},
		{"the blocks of the one behind go on, with a gap in the file", "..hi........", 0, 6, "g.hi........", extsAt(0, 6, 1, 2, 7, 2)},
		{"the blocks stand between both, with gaps in the file", "hi......kl..", 5, 9, "hi...j..kl..", extsAt(0, 7, 2, 5, 9, 1, 8, 10, 2)},
		{"the blocks stand between both, side by side with the one ahead alone", "hi......kl..", 2, 9, "hij.....kl..", extsAt(0, 7, 3, 8, 10, 2)},
		{"the blocks stand between both, side by side with the one behind alone", "hi......kl..", 7, 9, "hi.....jkl..", extsAt(0, 7, 2, 7, 9, 3)},
		{"neither the file nor the blocks are near", "ab..........", 7, 16, "ab.....q....", extsAt(0, 0, 2, 7, 16, 1)},
		{"ahead of all", "....ab......", 0, 9, "j...ab......", extsAt(0, 9, 1, 4, 0, 2)},
		{"between two", "ab......cd..", 4, 9, "ab..j...cd..", extsAt(0, 0, 2, 4, 9, 1, 8, 2, 2)},
		{"it goes on from one that stands behind it", "...hi.......", 1, 9, ".j.hi.......", extsAt(1, 9, 1, 3, 7, 2)},
		{"just behind one, and it goes on from another one", "hixw........", 4, 9, "hixwj.......", extsAt(0, 7, 2, 2, 23, 1, 3, 22, 1, 4, 9, 1)},
		{"the last file block of each second block", "acegikmoqsu.", 11, 22, "acegikmoqsuw", eachSecondBlock},
		{"the last gap, between two that do not go on", "xwvuts.qponm", 6, 17, "xwvutsrqponm", allBackwards},
		{"the end of the map and its beginning are not side by side", "wx..........", 2, 0, "wxa.........", extsAt(0, 22, 2, 2, 0, 1)},
	} {
		given, want := fileOf(row.text), fileOf(row.want)
		given[row.i] = row.block
		if given != want || !slices.Equal(want.exts(), row.exts) {
			t.Fatalf("%s: the words have %s and %v", row.why, given.text(), want.exts())
		}
		wantPutBlock(t, fileOf(row.text).exts(), row.i, row.block, row.exts, true)
	}
}

func TestPutBlockRefusedByHand(t *testing.T) {
	for _, row := range []struct {
		why      string
		text     string
		i, block int
	}{
		{"ahead of the file", noFile, -1, 3},
		{"behind the file", noFile, 12, 3},
		{"the least file block", noFile, math.MinInt, 3},
		{"the greatest file block", noFile, math.MaxInt, 3},
		{"a file block whose lower half is one", noFile, 1<<32 + 3, 3},
		{"a block below 0", noFile, 3, -1},
		{"a block behind the map", noFile, 3, 24},
		{"the least block", noFile, 3, math.MinInt},
		{"the greatest block", noFile, 3, math.MaxInt},
		{"a block whose lower half is one", noFile, 3, 1<<32 + 3},
		{"a block that is one in a word", noFile, 3, 64},
		{"a block that is a word's last", noFile, 3, 31},
		{"ahead of the file, and the next one goes on from it", "bc..........", -1, 0},
		{"behind the file, and it goes on from the last one", "..........ab", 12, 2},
		{"the block ahead of the map, and the next one goes on from it", ".a..........", 0, -1},
		{"the block behind the map, and it goes on from the last one", "wx..........", 2, 24},
		{"a file block that is taken, with a free block", "..hi........", 2, 0},
		{"the last one of an extent, with a free block", "..hi........", 3, 0},
		{"one within an extent, with a free block", "..hijk......", 4, 0},
		{"a file block with the block it has", "..hi........", 2, 7},
		{"a file block with the block of the next one", "..hi........", 2, 8},
		{"a free file block with the block of the one ahead", "..hi........", 4, 8},
		{"a free file block with the first block of the one ahead", "..hi........", 4, 7},
		{"a free file block with the block of the one behind", "..hi........", 1, 7},
		{"a block that goes on and is taken by another one", "..hi....jk..", 4, 9},
		{"a block that another one goes on from and is taken", "..hi....fg..", 1, 6},
		{"a block in the midst of an extent", "hijk........", 8, 9},
		{"the file is full, with a free block", "abcdefghijkl", 3, 20},
		{"the file is full, behind it", "abcdefghijkl", 12, 12},
		{"the file is full, ahead of it", "bcdefghijklm", -1, 0},
		{"neither of them is any", noFile, -1, -1},
		{"both are behind the end", noFile, 12, 24},
	} {
		l := fileOf(row.text).exts()
		if _, ok := putBlockByWords(l, row.i, row.block); ok {
			t.Fatalf("%s: the words have true", row.why)
		}
		wantPutBlockRefused(t, l, row.i, row.block)
	}
}

// wantNoOtherMoved asks each file block behind a PutBlock: that one is where it was put, and every other one where it was.
func wantNoOtherMoved(t *testing.T, l, got []impl.Ext, put, block int) {
	t.Helper()
	for i := range blocksInFile {
		want := impl.BlockAt(l, i)
		if i == put {
			want = block
		}
		if now := impl.BlockAt(got, i); now != want {
			t.Errorf("file block %d of %v is at %d behind PutBlock of %d at %d, not at %d", i, l, now, put, block, want)
		}
	}
	if !impl.ExtsOk(got) {
		t.Errorf("PutBlock of %v, %d, %d = %v is not right", l, put, block, got)
	}
}

func TestPutBlockAtEachPlaceWithEachBlock(t *testing.T) {
	for _, row := range fileRows {
		for i := -2; i <= blocksInFile+1; i++ {
			for block := -2; block <= bitsInMap+1; block++ {
				want, ok := putBlockByWords(row.exts, i, block)
				wantPutBlock(t, row.exts, i, block, want, ok)
				if ok {
					got, _ := impl.PutBlock(row.exts, i, block)
					wantNoOtherMoved(t, row.exts, got, i, block)
				}
			}
		}
	}
}

func TestPutBlockOfFarNumbers(t *testing.T) {
	for _, row := range fileRows {
		for _, far := range append(oddPlaces(), farNumbers...) {
			for _, near := range []int{-1, 0, 5, 11, 23} {
				if far < 0 || far >= blocksInFile {
					wantPutBlockRefused(t, row.exts, far, near)
				}
				if far < 0 || far >= bitsInMap {
					wantPutBlockRefused(t, row.exts, near, far)
				}
			}
			if far < 0 || far >= blocksInFile {
				wantPutBlockRefused(t, row.exts, far, far)
			}
		}
	}
}

func TestPutBlockOfWhatIsNotRight(t *testing.T) {
	for _, row := range brokenExts {
		for i := -1; i <= blocksInFile; i++ {
			for block := -1; block <= bitsInMap; block++ {
				wantPutBlock(t, row.exts, i, block, nil, false)
			}
		}
		wantPutBlock(t, row.exts, math.MinInt, math.MaxInt, nil, false)
		wantPutBlock(t, row.exts, math.MaxInt, math.MinInt, nil, false)
	}
}

// There is one way to write a file as right extents, in whatever order its blocks come.
func TestPutBlockInAnyOrder(t *testing.T) {
	s := steady{16}
	for _, row := range fileRows {
		m := fileOf(row.text)
		for range 60 {
			places := []int{0, 1, 2, 3, 4, 5, 6, 7, 8, 9, 10, 11}
			var l []impl.Ext
			for len(places) > 0 {
				at := s.below(len(places))
				i := places[at]
				places = slices.Delete(places, at, at+1)
				if m[i] < 0 {
					continue
				}
				next, ok := impl.PutBlock(l, i, m[i])
				if !ok || !impl.ExtsOk(next) {
					t.Fatalf("PutBlock of %v, %d, %d = %v, %v", l, i, m[i], next, ok)
				}
				l = next
			}
			if !slices.Equal(l, row.exts) {
				t.Errorf("%s comes to %v, not %v", row.text, l, row.exts)
			}
		}
	}
}

func TestCutAtByHand(t *testing.T) {
	for _, row := range []struct {
		why  string
		text string
		n    int
		want string
		gone []int
	}{
		{"nothing at 0", noFile, 0, noFile, nil},
		{"nothing in the midst", noFile, 5, noFile, nil},
		{"nothing at the end", noFile, 12, noFile, nil},
		{"all of one at 0", "abcd........", 0, noFile, []int{0, 1, 2, 3}},
		{"all of one below 0", "abcd........", -1, noFile, []int{0, 1, 2, 3}},
		{"all of one far below 0", "..hijk......", math.MinInt, noFile, []int{7, 8, 9, 10}},
		{"all of one far below 0, and one more", "..hijk......", math.MinInt + 1, noFile, []int{7, 8, 9, 10}},
		{"at the beginning of one", "..hijk......", 2, noFile, []int{7, 8, 9, 10}},
		{"in the gap ahead of one", "..hijk......", 1, noFile, []int{7, 8, 9, 10}},
		{"one behind the beginning of one", "..hijk......", 3, "..h.........", []int{8, 9, 10}},
		{"in the midst of one", "..hijk......", 4, "..hi........", []int{9, 10}},
		{"one ahead of the end of one", "..hijk......", 5, "..hij.......", []int{10}},
		{"at the end of one", "..hijk......", 6, "..hijk......", nil},
		{"behind the end of one", "..hijk......", 7, "..hijk......", nil},
		{"at the end of the file, one that ends there stays", "........qrst", 12, "........qrst", nil},
		{"past the end of the file", "........qrst", 13, "........qrst", nil},
		{"far past the end of the file", "........qrst", math.MaxInt, "........qrst", nil},
		{"the last file block", "........qrst", 11, "........qrs.", []int{19}},
		{"the last file block of a full one", "abcdefghijkl", 11, "abcdefghijk.", []int{11}},
		{"all but the first of a full one", "abcdefghijkl", 1, "a...........", []int{1, 2, 3, 4, 5, 6, 7, 8, 9, 10, 11}},
		{"in a gap between two", "ab...mn.....", 3, "ab..........", []int{12, 13}},
		{"at the beginning of a gap", "ab...mn.....", 2, "ab..........", []int{12, 13}},
		{"at the end of a gap", "ab...mn.....", 5, "ab..........", []int{12, 13}},
		{"in the midst of the second one", "ab...mn.....", 6, "ab...m......", []int{13}},
		{"in the midst of the first one", "ab...mn.....", 1, "a...........", []int{1, 12, 13}},
		{"between two side by side", "cdab........", 2, "cd..........", []int{0, 1}},
		{"blocks that do not rise", "..hid.j.....", 3, "..h.........", []int{8, 3, 9}},
		{"blocks that fall", "xwvutsrqponm", 6, "xwvuts......", []int{17, 16, 15, 14, 13, 12}},
		{"pairs that fall, in the midst of one", "klijghefcdab", 5, "klijg.......", []int{7, 4, 5, 2, 3, 0, 1}},
		{"all of the pairs that fall", "klijghefcdab", 0, noFile, []int{10, 11, 8, 9, 6, 7, 4, 5, 2, 3, 0, 1}},
		{"each second one", "a.b.c.d.e.f.", 5, "a.b.c.......", []int{3, 4, 5}},
	} {
		if got, gone := cutByWords(fileOf(row.text).exts(), row.n); !slices.Equal(got, fileOf(row.want).exts()) || !slices.Equal(gone, row.gone) {
			t.Fatalf("%s: the words have %v, %v", row.why, got, gone)
		}
		wantCut(t, fileOf(row.text).exts(), row.n, fileOf(row.want).exts(), row.gone)
	}
}

// wantAllElseToStay asks each file block behind a CutAt, and puts back what went.
func wantAllElseToStay(t *testing.T, l []impl.Ext, n int) {
	t.Helper()
	kept, gone := impl.CutAt(l, n)
	if !impl.ExtsOk(kept) {
		t.Errorf("CutAt of %v and %d = %v is not right", l, n, kept)
	}
	back := kept
	for i := range blocksInFile {
		block := impl.BlockAt(l, i)
		if i < n {
			if now := impl.BlockAt(kept, i); now != block {
				t.Errorf("file block %d of %v is at %d behind CutAt of %d, not at %d", i, l, now, n, block)
			}
			continue
		}
		if now := impl.BlockAt(kept, i); now != -1 {
			t.Errorf("file block %d of %v is at %d behind CutAt of %d", i, l, now, n)
		}
		if block < 0 {
			continue
		}
		if len(gone) == 0 || gone[0] != block {
			t.Fatalf("file block %d of %v went with CutAt of %d, and what is told from there on is %v", i, l, n, gone)
		}
		gone = gone[1:]
		back, _ = impl.PutBlock(back, i, block)
	}
	if len(gone) != 0 {
		t.Errorf("CutAt of %v and %d tells %v besides", l, n, gone)
	}
	if !slices.Equal(back, l) {
		t.Errorf("CutAt of %v and %d is put back to %v", l, n, back)
	}
}

func TestCutAtEachPlace(t *testing.T) {
	for _, row := range fileRows {
		for _, n := range append(oddPlaces(), farNumbers...) {
			want, gone := cutByWords(row.exts, n)
			wantCut(t, row.exts, n, want, gone)
			wantAllElseToStay(t, row.exts, n)
		}
	}
}

func TestCutAtOfWhatIsNotRight(t *testing.T) {
	for _, row := range brokenExts {
		for _, n := range append(oddPlaces(), farNumbers...) {
			wantCut(t, row.exts, n, nil, nil)
		}
	}
}

func TestBlocksOfByHand(t *testing.T) {
	for _, row := range []struct {
		why  string
		text string
		want []int
	}{
		{"nothing", noFile, nil},
		{"the first block", "...........a", []int{0}},
		{"the last block", "x...........", []int{23}},
		{"both ends, backwards", "xa..........", []int{0, 23}},
		{"one extent", "..hijk......", []int{7, 8, 9, 10}},
		{"two that change places", "cdab........", []int{0, 1, 2, 3}},
		{"the midst one comes first", "..hid.j.....", []int{3, 7, 8, 9}},
		{"one between two others", "ad.bc.......", []int{0, 1, 2, 3}},
		{"all backwards", "xwvutsrqponm", []int{12, 13, 14, 15, 16, 17, 18, 19, 20, 21, 22, 23}},
		{"pairs backwards", "klijghefcdab", []int{0, 1, 2, 3, 4, 5, 6, 7, 8, 9, 10, 11}},
		{"a full file", "abcdefghijkl", []int{0, 1, 2, 3, 4, 5, 6, 7, 8, 9, 10, 11}},
		{"by turns from both ends", "axbwcvduetfs", []int{0, 1, 2, 3, 4, 5, 18, 19, 20, 21, 22, 23}},
	} {
		l := fileOf(row.text).exts()
		if got := blocksByWords(l); !slices.Equal(got, row.want) {
			t.Fatalf("%s: the words have %v", row.why, got)
		}
		wantBlocksOf(t, l, row.want)
	}
	for _, row := range fileRows {
		wantBlocksOf(t, row.exts, blocksByWords(row.exts))
	}
	for _, row := range brokenExts {
		wantBlocksOf(t, row.exts, nil)
	}
}

// What a file takes is what its bitmap has set.
func TestBlocksOfAreWhatIsSetInABitmap(t *testing.T) {
	for _, row := range fileRows {
		b := mapOf(noneSet)
		for _, e := range row.exts {
			next, ok := impl.SetRun(b, e.Block, e.Len, true)
			if !ok {
				t.Fatalf("%s: %v is taken already", row.why, e)
			}
			b = next
		}
		var set []int
		for block, isSet := range b {
			if isSet {
				set = append(set, block)
			}
		}
		wantBlocksOf(t, row.exts, set)
	}
}

// wantExtsByWords asks all five, with PutBlock and CutAt at the places and blocks given.
func wantExtsByWords(t *testing.T, l []impl.Ext, places, blocks []int) {
	t.Helper()
	if got, want := impl.ExtsOk(l), extsRightByWords(l); got != want {
		t.Errorf("ExtsOk of %v = %v", l, got)
	}
	if got, want := impl.BlocksOf(l), blocksByWords(l); !slices.Equal(got, want) {
		t.Errorf("BlocksOf of %v = %v, not %v", l, got, want)
	}
	for _, i := range places {
		if got, want := impl.BlockAt(l, i), blockAtByWords(l, i); got != want {
			t.Errorf("BlockAt of %v and %d = %d, not %d", l, i, got, want)
		}
		got, gone := impl.CutAt(l, i)
		if want, wantGone := cutByWords(l, i); !slices.Equal(got, want) || !slices.Equal(gone, wantGone) {
			t.Errorf("CutAt of %v and %d = %v, %v, not %v, %v", l, i, got, gone, want, wantGone)
		}
		for _, block := range blocks {
			got, ok := impl.PutBlock(l, i, block)
			if want, wantOk := putBlockByWords(l, i, block); ok != wantOk || !slices.Equal(got, want) {
				t.Errorf("PutBlock of %v, %d, %d = %v, %v, not %v, %v", l, i, block, got, ok, want, wantOk)
			}
		}
	}
}

// smallFiles has each file of so many file blocks, from one on, that are in as many blocks, from one on, or in none.
func smallFiles(at, block, wide int) []fileMap {
	out := []fileMap{fileOf(noFile)}
	for i := range wide {
		for _, m := range out {
			for b := range wide {
				if slices.Contains(m[:], block+b) {
					continue
				}
				next := m
				next[at+i] = block + b
				out = append(out, next)
			}
		}
	}
	return out
}

func TestExtentsOfAllSmallFiles(t *testing.T) {
	for _, at := range []int{0, 4, blocksInFile - 4} {
		for _, block := range []int{0, 10, bitsInMap - 4} {
			files := smallFiles(at, block, 4)
			if len(files) != 209 {
				t.Fatalf("%d files", len(files))
			}
			places, blocks := []int{}, []int{}
			for i := -1; i <= 4; i++ {
				places, blocks = append(places, at+i), append(blocks, block+i)
			}
			for _, m := range files {
				wantExtsByWords(t, m.exts(), places, blocks)
			}
		}
	}
	for _, m := range smallFiles(2, 5, 6) {
		l := m.exts()
		if !impl.ExtsOk(l) {
			t.Errorf("ExtsOk of %v = false", l)
		}
		wantExtsByWords(t, l, []int{1, 3, 5, 8}, []int{4, 6, 8, 11})
	}
}

// exts has a file that came about by runs of blocks put here and there.
func (s *steady) exts() []impl.Ext {
	m := fileOf(noFile)
	for range s.below(7) {
		at, block, n := s.below(blocksInFile), s.below(bitsInMap), 1+s.below(5)
		for j := range n {
			if at+j < blocksInFile && block+j < bitsInMap && m[at+j] < 0 && !slices.Contains(m[:], block+j) {
				m[at+j] = block + j
			}
		}
	}
	return m.exts()
}

// brokenAt changes one number of one extent by a little, or two extents change places, so that most are not right any more.
func (s *steady) brokenAt(l []impl.Ext) []impl.Ext {
	l = slices.Clone(l)
	if len(l) == 0 {
		return l
	}
	e := &l[s.below(len(l))]
	change := s.below(7) - 3
	switch s.below(5) {
	case 0:
		e.At += change
	case 1:
		e.Block += change
	case 2:
		e.Len += change
	case 3:
		f := &l[s.below(len(l))]
		*e, *f = *f, *e
	case 4:
		l = append(l, *e)
	}
	return l
}

func TestExtentsOfManyFiles(t *testing.T) {
	s := steady{61}
	right, broken := 0, 0
	for range 30000 {
		l := s.exts()
		if s.below(3) == 0 {
			l = s.brokenAt(l)
		}
		if extsRightByWords(l) {
			right++
		} else {
			broken++
		}
		places := []int{s.below(14) - 1, s.below(14) - 1, s.below(14) - 1}
		blocks := []int{s.below(26) - 1, s.below(26) - 1, s.below(26) - 1, s.below(26) - 1}
		if len(l) > 0 {
			e := l[s.below(len(l))]
			places, blocks = append(places, e.At+e.Len, e.At-1), append(blocks, e.Block+e.Len, e.Block-1)
		}
		wantExtsByWords(t, l, places, blocks)
	}
	if right < 15000 || broken < 3000 {
		t.Errorf("%d right ones and %d others", right, broken)
	}
}

// One file is written and cut for long, and held against one of the test's own.
func TestPutBlockAndCutAtForLong(t *testing.T) {
	s := steady{62}
	var l []impl.Ext
	own := fileOf(noFile)
	taken, joined := 0, 0
	for range 60000 {
		if s.below(12) == 0 {
			n := s.below(14)
			next, gone := impl.CutAt(l, n)
			_, wantGone := cutByWords(own.exts(), n)
			for i := range own {
				if i >= n {
					own[i] = -1
				}
			}
			if !slices.Equal(gone, wantGone) {
				t.Fatalf("CutAt of %v and %d tells %v, not %v", l, n, gone, wantGone)
			}
			l = next
		} else {
			i, block := s.below(14)-1, s.below(26)-1
			if near := impl.BlockAt(l, i-1); near >= 0 && s.below(2) == 0 {
				block = near + 1
			}
			free := i >= 0 && i < blocksInFile && own[i] < 0 && block >= 0 && block < bitsInMap && !slices.Contains(own[:], block)
			next, ok := impl.PutBlock(l, i, block)
			if ok != free {
				t.Fatalf("PutBlock of %v, %d, %d = %v, %v", l, i, block, next, ok)
			}
			if ok {
				own[i] = block
				taken++
			}
			if ok && len(next) < len(l) {
				joined++
			}
			l = next
		}
		if !slices.Equal(l, own.exts()) {
			t.Fatalf("%s has the extents %v", own.text(), l)
		}
	}
	if taken < 10000 || joined < 50 {
		t.Errorf("only %d were taken, and %d made one of three", taken, joined)
	}
}
