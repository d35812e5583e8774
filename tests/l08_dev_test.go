package tests

import (
	"math"
	"slices"
	"strconv"
	"strings"
	"testing"
	"unsafe"

	"loop.example/g00773/impl"
)

func write(block int, text string) impl.Write { return impl.Write{Block: block, Text: text} }

func sameDev(a, b impl.Dev) bool {
	return slices.Equal(a.Blocks, b.Blocks) && slices.Equal(a.Pend, b.Pend)
}

func cloneDev(d impl.Dev) impl.Dev {
	return impl.Dev{Blocks: slices.Clone(d.Blocks), Pend: slices.Clone(d.Pend)}
}

// In the document's words; numbers stand here as it has them.

func isWriteByWords(w impl.Write) bool {
	return w.Block >= 0 && w.Block <= 17 && len(w.Text) <= 4000
}

func devOkByWords(d impl.Dev) bool {
	if len(d.Blocks) != 18 || len(d.Pend) > 40 {
		return false
	}
	for _, text := range d.Blocks {
		if len(text) > 4000 {
			return false
		}
	}
	for _, w := range d.Pend {
		if !isWriteByWords(w) {
			return false
		}
	}
	return true
}

func putByWords(d impl.Dev, l []impl.Write) (impl.Dev, bool) {
	if !devOkByWords(d) {
		return impl.Dev{}, false
	}
	out := cloneDev(d)
	for _, w := range l {
		out.Pend = append(out.Pend, w)
		if !isWriteByWords(w) || len(out.Pend) > 40 {
			return d, false
		}
	}
	return out, true
}

// maskBits has the numbers from 0 to 39 whose bits are set, by halving.
func maskBits(mask int) map[int]bool {
	out := map[int]bool{}
	for number := 0; number < 40 && mask > 0; number++ {
		out[number] = mask%2 == 1
		mask /= 2
	}
	return out
}

// crashByWords asks of each block which write of it is the last one that is done.
func crashByWords(d impl.Dev, mask int) impl.Dev {
	if !devOkByWords(d) {
		return impl.Dev{}
	}
	set := maskBits(mask)
	out := impl.Dev{}
	for block, text := range d.Blocks {
		for number, w := range d.Pend {
			if w.Block == block && set[number] {
				text = w.Text
			}
		}
		out.Blocks = append(out.Blocks, text)
	}
	return out
}

func flushByWords(d impl.Dev) impl.Dev { return crashByWords(d, 1<<40-1) }

// devWith has 18 blocks, the first ones as given, and writes under way.
func devWith(texts []string, pend ...impl.Write) impl.Dev {
	return impl.Dev{Blocks: append(slices.Clone(texts), make([]string, 18-len(texts))...), Pend: pend}
}

// numberedDev has a text of its own in each block, and count writes under way, each with one of its own, over a few blocks.
func numberedDev(count, over int) impl.Dev {
	var d impl.Dev
	for i := range 18 {
		d.Blocks = append(d.Blocks, "block "+strconv.Itoa(i))
	}
	d.Pend = numberedWrites("write ", count, over)
	return d
}

func numberedWrites(name string, count, over int) []impl.Write {
	var l []impl.Write
	for i := range count {
		l = append(l, write(i*11%over, name+strconv.Itoa(i)))
	}
	return l
}

// greatestDev has blocks and writes that are all as long and as many as they may be.
func greatestDev() impl.Dev {
	var d impl.Dev
	for i := range 18 {
		d.Blocks = append(d.Blocks, strings.Repeat(string(rune('a'+i)), 4000))
	}
	for i := range 40 {
		d.Pend = append(d.Pend, write(17-i%18, strings.Repeat(string(rune('A'+i)), 4000)))
	}
	return d
}

func rightDevs() map[string]impl.Dev {
	out := map[string]impl.Dev{
		"NewDev":                      impl.NewDev(),
		"nothing under way":           numberedDev(0, 1),
		"one write":                   numberedDev(1, 1),
		"two writes of one block":     numberedDev(2, 1),
		"writes of two blocks":        numberedDev(5, 2),
		"writes of all blocks":        numberedDev(18, 18),
		"one less than all writes":    numberedDev(39, 5),
		"all writes":                  numberedDev(40, 18),
		"all writes of one block":     numberedDev(40, 1),
		"all at its greatest":         greatestDev(),
		"the same text all over":      devWith([]string{"same", "same"}, write(0, "same"), write(1, "same"), write(2, "same")),
		"a write of no bytes":         devWith([]string{"full"}, write(0, "more"), write(0, "")),
		"bytes that are no UTF-8":     devWith([]string{"\xff\x00\x80"}, write(17, "\x00"), write(0, "\xc3")),
		"a list of no writes, no nil": {Blocks: make([]string, 18), Pend: []impl.Write{}},
	}
	for why, d := range out {
		if !devOkByWords(d) {
			panic("a device that is not right among the others: " + why)
		}
	}
	return out
}

// notRightDevs has devices with one thing wrong, in each place.
func notRightDevs() map[string]impl.Dev {
	out := map[string]impl.Dev{
		"the zero one":              {},
		"writes without blocks":     {Pend: []impl.Write{write(0, "a")}},
		"one block":                 {Blocks: []string{"a"}},
		"one block less":            {Blocks: make([]string, 17)},
		"one block more":            {Blocks: make([]string, 19)},
		"twice the blocks":          {Blocks: make([]string, 36)},
		"one block less, with Pend": {Blocks: make([]string, 17), Pend: numberedWrites("w", 3, 3)},
		"one write more":            numberedDev(41, 18),
		"many writes":               numberedDev(1000, 18),
	}
	for at := range 18 {
		d := numberedDev(3, 2)
		d.Blocks[at] = strings.Repeat("b", 4001)
		out["a block too long, "+strconv.Itoa(at)] = d
	}
	for why, w := range noWrites() {
		for _, at := range []int{0, 1, 20, 38, 39} {
			d := numberedDev(40, 18)
			d.Pend[at] = w
			out[why+" as write "+strconv.Itoa(at)] = d
		}
		out[why+" alone"] = devWith(nil, w)
	}
	for why, d := range out {
		if devOkByWords(d) {
			panic("a right device among the others: " + why)
		}
	}
	return out
}

func noWrites() map[string]impl.Write {
	long := strings.Repeat("t", 4001)
	return map[string]impl.Write{
		"block -1":                  write(-1, "a"),
		"block 18":                  write(18, "a"),
		"block 18 without bytes":    write(18, ""),
		"block 19":                  write(19, "a"),
		"the greatest block":        write(math.MaxInt, "a"),
		"the least block":           write(math.MinInt, "a"),
		"a block behind 32 bits":    write(1<<32, "a"),
		"a text too long":           write(0, long),
		"a text too long, at 17":    write(17, long),
		"block and text out of all": write(-1, long),
	}
}

// roomyWrites has l with room behind it, and tells whether both are as they were.
func roomyWrites(l []impl.Write) ([]impl.Write, func() bool) {
	all := slices.Clone(l)
	for i := range 100 {
		all = append(all, write(-7-i, leftName))
	}
	before := slices.Clone(all)
	return all[:len(l)], func() bool { return slices.Equal(all, before) }
}

func roomyDev(d impl.Dev) (impl.Dev, func() bool) {
	blocks, blocksLeft := roomyTexts(d.Blocks)
	pend, pendLeft := roomyWrites(d.Pend)
	return impl.Dev{Blocks: blocks, Pend: pend}, func() bool { return blocksLeft() && pendLeft() }
}

// spoilWrites writes over all memory of a list, the room behind it included.
func spoilWrites(l []impl.Write) {
	for i := range l[:cap(l)] {
		l[:cap(l)][i] = write(-8, "written over")
	}
}

func spoilDev(d impl.Dev) {
	spoilTexts(d.Blocks)
	spoilWrites(d.Pend)
}

// looseWrites has l with texts that are written over by what it tells.
func looseWrites(l []impl.Write) ([]impl.Write, func()) {
	l = slices.Clone(l)
	var all [][]byte
	for i := range l {
		text, bytes := loose(l[i].Text)
		l[i].Text = text
		all = append(all, bytes)
	}
	return l, func() { overwrite(all) }
}

func looseDev(d impl.Dev) (impl.Dev, func()) {
	blocks, overBlocks := looseTexts(d.Blocks)
	pend, overPend := looseWrites(d.Pend)
	return impl.Dev{Blocks: blocks, Pend: pend}, func() { overBlocks(); overPend() }
}

// textsShare asks whether two texts of one device begin at one byte.
func textsShare(d impl.Dev) bool {
	seen := map[*byte]int{}
	count := func(text string) {
		if text != "" {
			seen[unsafe.StringData(text)]++
		}
	}
	for _, text := range d.Blocks {
		count(text)
	}
	for _, w := range d.Pend {
		count(w.Text)
	}
	for _, times := range seen {
		if times > 1 {
			return true
		}
	}
	return false
}

// shownDev is short enough to be told where a test fails.
func shownDev(d impl.Dev) string {
	show := func(text string) string {
		if len(text) > 12 {
			return strconv.Quote(text[:8]) + "..(" + strconv.Itoa(len(text)) + ")"
		}
		return strconv.Quote(text)
	}
	var out strings.Builder
	out.WriteString("{" + strconv.Itoa(len(d.Blocks)) + " blocks:")
	for i, text := range d.Blocks {
		if text != "" {
			out.WriteString(" " + strconv.Itoa(i) + ":" + show(text))
		}
	}
	out.WriteString("; " + strconv.Itoa(len(d.Pend)) + " writes:")
	for _, w := range d.Pend {
		out.WriteString(" " + strconv.Itoa(w.Block) + ":" + show(w.Text))
	}
	return out.String() + "}"
}

func wantDevOk(t *testing.T, why string, d impl.Dev, want bool) {
	t.Helper()
	given, left := roomyDev(d)
	if got := impl.DevOk(given); got != want {
		t.Errorf("DevOk of %s (%s) = %v", shownDev(d), why, got)
	}
	if !left() {
		t.Errorf("DevOk of %s (%s): what it was given is changed", shownDev(d), why)
	}
}

// wantAnswer asks what a call answers to a device, that what was given is left, and that nothing is shared.
func wantAnswer(t *testing.T, what string, d impl.Dev, ask func(impl.Dev) (impl.Dev, bool), want impl.Dev, wantOk bool) {
	t.Helper()
	given, left := roomyDev(d)
	got, ok := ask(given)
	if ok != wantOk || !sameDev(got, want) {
		t.Errorf("%s\n of   %s\n is   %s, %v\n want %s, %v", what, shownDev(d), shownDev(got), ok, shownDev(want), wantOk)
		return
	}
	if !left() {
		t.Errorf("%s of %s: what it was given is changed", what, shownDev(d))
	}
	if textsShare(got) {
		t.Errorf("%s of %s: two texts of the answer share memory", what, shownDev(d))
	}
	spoilDev(given)
	if !sameDev(got, want) {
		t.Errorf("%s of %s: the answer is changed with what was given", what, shownDev(d))
	}
	given, left = roomyDev(d)
	first, _ := ask(given)
	again, _ := ask(given)
	spoilDev(first)
	last, _ := ask(given)
	if !left() {
		t.Errorf("%s of %s: what was given is changed with the answer", what, shownDev(d))
	}
	if !sameDev(again, want) || !sameDev(last, want) {
		t.Errorf("%s of %s: the answer is changed with an earlier one", what, shownDev(d))
	}
	shown, writeOver := looseDev(d)
	got, _ = ask(shown)
	writeOver()
	if !sameDev(got, want) {
		t.Errorf("%s of %s: the texts of the answer share bytes with what was given", what, shownDev(d))
	}
}

// wantPut asks of the list of writes what wantAnswer asks of the device.
func wantPut(t *testing.T, why string, d impl.Dev, l []impl.Write, want impl.Dev, wantOk bool) {
	t.Helper()
	what := "Put of " + strconv.Itoa(len(l)) + " writes (" + why + ")"
	given, left := roomyWrites(l)
	wantAnswer(t, what, d, func(d impl.Dev) (impl.Dev, bool) { return impl.Put(d, given) }, want, wantOk)
	if !left() {
		t.Errorf("%s into %s: the list is changed", what, shownDev(d))
	}
	got, _ := impl.Put(d, given)
	spoilWrites(given)
	if !sameDev(got, want) {
		t.Errorf("%s into %s: the answer is changed with the list", what, shownDev(d))
	}
	given, left = roomyWrites(l)
	got, _ = impl.Put(d, given)
	spoilDev(got)
	if !left() {
		t.Errorf("%s into %s: the list is changed with the answer", what, shownDev(d))
	}
	shown, writeOver := looseWrites(l)
	got, _ = impl.Put(d, shown)
	writeOver()
	if !sameDev(got, want) {
		t.Errorf("%s into %s: the texts of the answer share bytes with the list", what, shownDev(d))
	}
}

func wantPutByWords(t *testing.T, why string, d impl.Dev, l []impl.Write) {
	t.Helper()
	want, wantOk := putByWords(d, l)
	wantPut(t, why, d, l, want, wantOk)
}

func wantFlush(t *testing.T, why string, d, want impl.Dev) {
	t.Helper()
	wantAnswer(t, "Flush ("+why+")", d, func(d impl.Dev) (impl.Dev, bool) { return impl.Flush(d), true }, want, true)
}

func wantCrash(t *testing.T, why string, d impl.Dev, mask int, want impl.Dev) {
	t.Helper()
	what := "Crash by " + strconv.Itoa(mask) + " (" + why + ")"
	wantAnswer(t, what, d, func(d impl.Dev) (impl.Dev, bool) { return impl.Crash(d, mask), true }, want, true)
}

func TestDevConstants(t *testing.T) {
	if impl.Blocks != 18 || impl.MaxPend != 40 {
		t.Error(impl.Blocks, impl.MaxPend)
	}
}

func TestNewDev(t *testing.T) {
	d := impl.NewDev()
	if len(d.Blocks) != 18 || len(d.Pend) != 0 {
		t.Fatal(shownDev(d))
	}
	for i, text := range d.Blocks {
		if text != "" {
			t.Errorf("block %d has bytes: %q", i, text)
		}
	}
	wantDevOk(t, "NewDev", d, true)
	again := impl.NewDev()
	spoilDev(d)
	if want := (impl.Dev{Blocks: make([]string, 18)}); !sameDev(again, want) || !sameDev(impl.NewDev(), want) {
		t.Error("a new device is changed with an earlier one")
	}
}

func TestDevOk(t *testing.T) {
	for why, d := range rightDevs() {
		wantDevOk(t, why, d, true)
	}
	for why, d := range notRightDevs() {
		wantDevOk(t, why, d, false)
	}
}

func TestDevOkByHowManyBlocks(t *testing.T) {
	for count := range 60 {
		wantDevOk(t, strconv.Itoa(count)+" blocks", impl.Dev{Blocks: make([]string, count)}, count == 18)
	}
}

func TestDevOkByHowLongABlockIs(t *testing.T) {
	for at := range 18 {
		for _, size := range []int{0, 1, 400, 3999, 4000, 4001, 8000} {
			d := impl.NewDev()
			d.Blocks[at] = strings.Repeat("b", size)
			wantDevOk(t, "a block of "+strconv.Itoa(size), d, size <= 4000)
		}
	}
}

func TestDevOkByHowManyWrites(t *testing.T) {
	for count := range 60 {
		wantDevOk(t, strconv.Itoa(count)+" writes", numberedDev(count, 18), count <= 40)
		d := impl.NewDev()
		d.Pend = make([]impl.Write, count)
		wantDevOk(t, strconv.Itoa(count)+" writes of nothing", d, count <= 40)
	}
}

func TestDevOkByWhatAWriteIs(t *testing.T) {
	for _, count := range []int{1, 2, 40} {
		for at := range count {
			d := numberedDev(count, 18)
			for _, block := range []int{math.MinInt, -18, -1, 0, 1, 9, 16, 17, 18, 19, 40, 1 << 32, math.MaxInt} {
				d.Pend[at] = write(block, "text")
				wantDevOk(t, "a write of block "+strconv.Itoa(block), d, block >= 0 && block < 18)
			}
			for _, size := range []int{0, 1, 3999, 4000, 4001, 8000} {
				d.Pend[at] = write(17, strings.Repeat("t", size))
				wantDevOk(t, "a write of "+strconv.Itoa(size), d, size <= 4000)
			}
		}
	}
}

func TestPutComesBehindPend(t *testing.T) {
	d := devWith([]string{"old"}, write(3, "a"), write(0, "b"))
	l := []impl.Write{write(0, "c"), write(17, ""), write(0, "d")}
	want := devWith([]string{"old"}, write(3, "a"), write(0, "b"), write(0, "c"), write(17, ""), write(0, "d"))
	wantPut(t, "by hand", d, l, want, true)
	wantPut(t, "the first writes", impl.NewDev(), l, devWith(nil, l...), true)
	same := []impl.Write{write(1, "x"), write(1, "x"), write(1, "x")}
	wantPut(t, "the same write thrice", devWith(nil, same...), same, devWith(nil, append(slices.Clone(same), same...)...), true)
}

func TestPutOfNothing(t *testing.T) {
	for why, d := range rightDevs() {
		wantPut(t, "nil, "+why, d, nil, d, true)
		wantPut(t, "an empty list, "+why, d, []impl.Write{}, d, true)
	}
}

func TestPutUpToMaxPend(t *testing.T) {
	for under := range 41 {
		d := numberedDev(under, 18)
		for _, count := range []int{0, 1, 2, 39 - under, 40 - under, 41 - under, 42 - under, 40, 41, 80} {
			if count < 0 {
				continue
			}
			l := numberedWrites("more ", count, 5)
			if under+count > 40 {
				wantPut(t, "too many", d, l, d, false)
				continue
			}
			want := cloneDev(d)
			want.Pend = append(want.Pend, l...)
			wantPut(t, "they fit", d, l, want, true)
		}
	}
}

// TestPutOneByOne asks that one by one, in parts and all at once come to the same.
func TestPutOneByOne(t *testing.T) {
	l := numberedWrites("write ", 40, 7)
	all, ok := impl.Put(impl.NewDev(), l)
	if !ok {
		t.Fatal("40 writes are refused")
	}
	d := impl.NewDev()
	for i, w := range l {
		before := cloneDev(d)
		next, ok := impl.Put(d, []impl.Write{w})
		if !ok || !sameDev(d, before) || len(next.Pend) != i+1 {
			t.Fatalf("write %d: %v, %s", i, ok, shownDev(next))
		}
		d = next
	}
	if !sameDev(d, all) {
		t.Errorf("one by one %s, at once %s", shownDev(d), shownDev(all))
	}
	wantPut(t, "one more", d, l[:1], d, false)
	for at := range 41 {
		part, _ := impl.Put(impl.NewDev(), l[:at])
		wantPut(t, "the second part", part, l[at:], all, true)
	}
}

func TestPutOfOneThatIsNone(t *testing.T) {
	for why, bad := range noWrites() {
		for _, count := range []int{1, 2, 3, 5, 37} {
			for _, at := range []int{0, count / 2, count - 1} {
				l := numberedWrites("more ", count, 18)
				l[at] = bad
				d := numberedDev(3, 2)
				wantPut(t, why+" at "+strconv.Itoa(at), d, l, d, false)
				wantPut(t, why+" at "+strconv.Itoa(at)+", into a new one", impl.NewDev(), l, impl.NewDev(), false)
			}
		}
		full := numberedDev(40, 18)
		wantPut(t, why+" into a full one", full, []impl.Write{bad}, full, false)
		many := append(numberedWrites("more ", 40, 18), bad)
		wantPut(t, why+" behind too many", impl.NewDev(), many, impl.NewDev(), false)
	}
}

func TestPutOfWritesAtTheirGreatest(t *testing.T) {
	d := greatestDev()
	l := d.Pend
	d.Pend = nil
	wantPut(t, "all at their greatest", d, l, greatestDev(), true)
	for _, size := range []int{3999, 4000, 4001} {
		for _, block := range []int{-1, 0, 17, 18} {
			wantPutByWords(t, "edges", numberedDev(39, 4), []impl.Write{write(block, strings.Repeat("t", size))})
		}
	}
}

func TestPutOfAListThatIsTheDevicesOwn(t *testing.T) {
	d := numberedDev(20, 3)
	want := cloneDev(d)
	want.Pend = append(want.Pend, d.Pend...)
	got, ok := impl.Put(d, d.Pend)
	if !ok || !sameDev(got, want) || textsShare(got) || !sameDev(d, numberedDev(20, 3)) {
		t.Error(shownDev(got), ok, shownDev(d))
	}
	all := numberedWrites("write ", 40, 3)
	d.Pend = all[:20]
	got, ok = impl.Put(d, all[20:])
	if want.Pend = numberedWrites("write ", 40, 3); !ok || !sameDev(got, want) {
		t.Error("the list stands in the room behind Pend", shownDev(got), ok)
	}
	got, ok = impl.Put(d, all[10:30])
	want.Pend = append(numberedWrites("write ", 20, 3), numberedWrites("write ", 30, 3)[10:]...)
	if !ok || !sameDev(got, want) || !slices.Equal(all, numberedWrites("write ", 40, 3)) {
		t.Error("the list reaches behind Pend", shownDev(got), ok)
	}
}

func TestDevicesThatAreNotRight(t *testing.T) {
	lists := map[string][]impl.Write{
		"nothing":  nil,
		"a write":  {write(0, "a")},
		"no write": {write(18, "a")},
		"too many": make([]impl.Write, 41),
	}
	for why, d := range notRightDevs() {
		for list, l := range lists {
			wantPut(t, list+", "+why, d, l, impl.Dev{}, false)
		}
		wantFlush(t, why, d, impl.Dev{})
		for _, mask := range []int{math.MinInt, -1, 0, 1, 7, 1<<40 - 1, 1 << 40, math.MaxInt} {
			wantCrash(t, why, d, mask, impl.Dev{})
		}
	}
}

func TestFlushByHand(t *testing.T) {
	wantFlush(t, "nothing under way", impl.NewDev(), impl.NewDev())
	wantFlush(t, "one write", devWith(nil, write(17, "z")), impl.Dev{Blocks: append(make([]string, 17), "z")})
	wantFlush(t, "two of one block", devWith([]string{"old"}, write(0, "a"), write(0, "b")), devWith([]string{"b"}))
	wantFlush(t, "two of one block, one between", devWith(nil, write(0, "a"), write(1, "b"), write(0, "c")), devWith([]string{"c", "b"}))
	wantFlush(t, "there and back", devWith([]string{"a"}, write(0, "b"), write(0, "a")), devWith([]string{"a"}))
	wantFlush(t, "no bytes at last", devWith([]string{"a", "b"}, write(0, "c"), write(0, ""), write(1, "")), devWith(nil))
	wantFlush(t, "no bytes in the midst", devWith([]string{"a"}, write(0, ""), write(0, "d")), devWith([]string{"d"}))
	wantFlush(t, "the shorter one last", devWith([]string{"abcdef"}, write(0, "abcdefghi"), write(0, "x")), devWith([]string{"x"}))
	wantFlush(t, "three of one block", devWith(nil, write(2, "c"), write(2, "b"), write(2, "a")), devWith([]string{"", "", "a"}))
	wantFlush(t, "two blocks by turns", devWith([]string{"0", "1", "2"}, write(0, "a"), write(1, "b"), write(1, "c"), write(0, "d"), write(1, "e")), devWith([]string{"d", "e", "2"}))
}

func TestFlushOfRightDevices(t *testing.T) {
	for why, d := range rightDevs() {
		want := flushByWords(d)
		wantFlush(t, why, d, want)
		wantDevOk(t, "behind Flush", want, true)
		wantFlush(t, why+", once more", want, want)
	}
	for count := range 41 {
		for _, over := range []int{1, 2, 3, 18} {
			wantFlush(t, "numbered", numberedDev(count, over), flushByWords(numberedDev(count, over)))
		}
	}
}

// TestFlushOneByOne asks that writes flushed one by one and all at once come to the same.
func TestFlushOneByOne(t *testing.T) {
	l := numberedWrites("write ", 40, 7)
	d := numberedDev(0, 1)
	for _, w := range l {
		d, _ = impl.Put(d, []impl.Write{w})
		d = impl.Flush(d)
	}
	all, _ := impl.Put(numberedDev(0, 1), l)
	if got := impl.Flush(all); !sameDev(got, d) || got.Blocks[0] != "write 35" || got.Blocks[6] != "write 33" || got.Blocks[7] != "block 7" {
		t.Errorf("one by one %s, at once %s", shownDev(d), shownDev(got))
	}
}

func TestCrashByHand(t *testing.T) {
	d := devWith([]string{"old", "", "kept"}, write(0, "a"), write(1, "b"), write(0, "c"))
	for mask, want := range [][]string{
		{"old", "", "kept"},
		{"a", "", "kept"},
		{"old", "b", "kept"},
		{"a", "b", "kept"},
		{"c", "", "kept"},
		{"c", "", "kept"},
		{"c", "b", "kept"},
		{"c", "b", "kept"},
	} {
		wantCrash(t, "by hand", d, mask, devWith(want))
		wantCrash(t, "a bit behind the writes", d, mask+8, devWith(want))
		wantCrash(t, "all bits behind the writes", d, math.MaxInt-7+mask, devWith(want))
		wantCrash(t, "below 0", d, math.MinInt+mask, devWith([]string{"old", "", "kept"}))
		wantCrash(t, "below 0", d, -8+mask, devWith([]string{"old", "", "kept"}))
	}
}

// TestCrashByEachMask goes through all rows of writes over three blocks, and all masks of each.
func TestCrashByEachMask(t *testing.T) {
	for count := range 6 {
		textsOf("\x00\x01\x11", count, func(blocks string) {
			d := devWith([]string{"old 0", "old 1"})
			for i, block := range []byte(blocks) {
				d.Pend = append(d.Pend, write(int(block), "write "+strconv.Itoa(i)))
			}
			for mask := range 1 << count {
				want := cloneDev(d)
				want.Pend = nil
				for i, w := range d.Pend {
					if mask&(1<<i) != 0 {
						want.Blocks[w.Block] = w.Text
					}
				}
				wantCrash(t, "each mask", d, mask, want)
				if !sameDev(want, crashByWords(d, mask)) {
					t.Fatal("the words are at odds", mask, shownDev(d))
				}
			}
		})
	}
}

// keptOnly has of the writes under way those of a mask.
func keptOnly(d impl.Dev, mask int) impl.Dev {
	set := maskBits(mask)
	out := impl.Dev{Blocks: d.Blocks}
	for number, w := range d.Pend {
		if set[number] {
			out.Pend = append(out.Pend, w)
		}
	}
	return out
}

// TestCrashIsFlushOfWhatIsKept is promise 8: the others are lost as if they had never been put.
func TestCrashIsFlushOfWhatIsKept(t *testing.T) {
	s := steady{8}
	for why, d := range rightDevs() {
		for range 60 {
			mask := s.below(1<<20) + s.below(1<<20)<<20
			got := impl.Crash(d, mask)
			if want := impl.Flush(keptOnly(d, mask)); !sameDev(got, want) || len(got.Pend) != 0 || !impl.DevOk(got) {
				t.Errorf("%s: Crash by %d is %s, Flush of what is kept %s", why, mask, shownDev(got), shownDev(want))
			}
		}
	}
}

// edgeMasks has the masks at which one could go astray.
func edgeMasks() []int {
	const all = 1<<40 - 1
	out := []int{0, all, all - 1, all >> 1, 1 << 40, 1<<40 + 1, 1<<40 + all, 1<<41 - 1, 1 << 62, math.MaxInt, math.MaxInt - all, math.MaxInt - 1, math.MaxInt32, math.MaxUint32, 1<<32 + 1, 0x5555555555, 0xaaaaaaaaaa}
	out = append(out, -1, -2, -all, -all-1, -all-2, math.MinInt, math.MinInt+1, math.MinInt+all, math.MinInt32)
	for i := range 63 {
		out = append(out, 1<<i, math.MaxInt-1<<i, -(1 << i))
	}
	return out
}

func TestCrashByMasksAtTheEdges(t *testing.T) {
	for _, d := range []impl.Dev{numberedDev(40, 18), numberedDev(40, 1), numberedDev(39, 2), numberedDev(33, 3), numberedDev(1, 1), numberedDev(0, 1)} {
		for _, mask := range edgeMasks() {
			wantCrash(t, "edges", d, mask, crashByWords(d, mask))
		}
	}
}

func TestCrashKeepsJustOneOfAll(t *testing.T) {
	d := numberedDev(40, 1)
	for i := range 40 {
		want := numberedDev(0, 1)
		want.Blocks[0] = "write " + strconv.Itoa(i)
		wantCrash(t, "one bit", d, 1<<i, want)
		wantCrash(t, "it and all ahead of it", d, 1<<(i+1)-1, want)
		wantCrash(t, "it and some behind the 40th", d, 1<<i+5<<40, want)
	}
	for i := 40; i < 63; i++ {
		wantCrash(t, "one bit behind", d, 1<<i, numberedDev(0, 1))
	}
}

func TestCrashByNoneAndByAll(t *testing.T) {
	for why, d := range rightDevs() {
		none := impl.Dev{Blocks: d.Blocks}
		for _, mask := range []int{0, -1, math.MinInt, math.MinInt + 1, -(1 << 39), -(1 << 40), 1 << 40, 1 << 62, math.MaxInt - (1<<40 - 1)} {
			wantCrash(t, "none, "+why, d, mask, none)
		}
		for _, mask := range []int{1<<40 - 1, 1<<41 - 1, 1<<62 - 1, math.MaxInt} {
			wantCrash(t, "all, "+why, d, mask, flushByWords(d))
			if !sameDev(impl.Crash(d, mask), impl.Flush(d)) {
				t.Errorf("%s: Crash by all is not Flush", why)
			}
		}
		if once := impl.Crash(d, 0x0f0f0f0f0f); !sameDev(impl.Crash(once, math.MaxInt), once) || !sameDev(impl.Flush(once), once) {
			t.Errorf("%s: something is under way behind a crash", why)
		}
	}
}

// TestDevicesChangedForLong puts, flushes and crashes, and asks each as the words have it.
func TestDevicesChangedForLong(t *testing.T) {
	for seed := range 6 {
		s := steady{uint64(800 + seed)}
		d := impl.NewDev()
		for range 250 {
			switch s.below(12) {
			case 0:
				want := flushByWords(d)
				wantFlush(t, "for long", d, want)
				d = impl.Flush(d)
			case 1:
				mask := s.below(1<<20) + s.below(1<<20)<<20 + s.below(2)<<50 - s.below(4)/3<<60
				want := crashByWords(d, mask)
				wantCrash(t, "for long", d, mask, want)
				d = impl.Crash(d, mask)
			default:
				l := s.writes()
				wantPutByWords(t, "for long", d, l)
				d, _ = impl.Put(d, l)
			}
			wantDevOk(t, "for long", d, true)
			if t.Failed() {
				return
			}
		}
	}
}

// writes has up to ten, mostly over a few blocks, and now and then one that is none.
func (s *steady) writes() []impl.Write {
	var l []impl.Write
	for range s.below(11) {
		l = append(l, write(s.below(3+s.below(2)*15), s.bytesBelow(s.below(6))))
	}
	if len(l) > 0 && s.below(8) == 0 {
		l[s.below(len(l))] = []impl.Write{write(18, ""), write(-1, "a"), write(0, strings.Repeat("t", 4001))}[s.below(3)]
	}
	return l
}
