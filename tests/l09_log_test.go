package tests

import (
	"maps"
	"math"
	"slices"
	"strconv"
	"strings"
	"testing"
	"unsafe"

	"loop.example/g00773/impl"
)

func txnOf(seq int, outs ...impl.Write) impl.Txn { return impl.Txn{Seq: seq, Outs: outs} }

func sameTxn(a, b impl.Txn) bool { return a.Seq == b.Seq && slices.Equal(a.Outs, b.Outs) }

// In the document's words; numbers stand here as it has them.

func txnOkByWords(x impl.Txn) bool {
	if x.Seq < 1 || x.Seq > 1000000 || len(x.Outs) < 1 || len(x.Outs) > 17 {
		return false
	}
	for i, w := range x.Outs {
		if w.Block < 0 || w.Block > 16 || len(w.Text) > 400 {
			return false
		}
		if i > 0 && w.Block <= x.Outs[i-1].Block {
			return false
		}
	}
	return true
}

// summed has the sum ahead that fits, whatever text it is.
func summed(text string) string {
	sum := crcBySteps(text)
	return string([]byte{byte(sum >> 24), byte(sum >> 16), byte(sum >> 8), byte(sum)}) + text
}

func txnParts(x impl.Txn) []blockPart {
	out := []blockPart{bytesPart("t"), numberPart(x.Seq), countPart(len(x.Outs))}
	for _, w := range x.Outs {
		out = append(out, numberPart(w.Block), countPart(len(w.Text)), bytesPart(w.Text))
	}
	return out
}

func textOfParts(parts []blockPart) string { return blockTexts([][]blockPart{parts})[0] }

// textOfTxn is of a Txn that is not right too, as far as it can be written.
func textOfTxn(x impl.Txn) string { return summed(textOfParts(txnParts(x))) }

func showTxnByWords(x impl.Txn) string {
	if text := textOfTxn(x); txnOkByWords(x) && len(text) <= 4000 {
		return text
	}
	return ""
}

func readTxnByWords(s string) (impl.Txn, bool) {
	r := blockReader{rest: s}
	r.bytes(4 + 1)
	x := impl.Txn{Seq: r.number()}
	for count := r.number(); count > 0 && !r.lost; count-- {
		w := impl.Write{Block: r.number()}
		w.Text = r.bytes(r.number())
		x.Outs = append(x.Outs, w)
	}
	if r.lost || s == "" || showTxnByWords(x) != s {
		return impl.Txn{}, false
	}
	return x, true
}

func diffByWords(a, b []string) []impl.Write {
	var out []impl.Write
	for i := 0; len(a) == 17 && len(b) == 17 && i < 17; i++ {
		if a[i] != b[i] {
			out = append(out, write(i, b[i]))
		}
	}
	return out
}

func doneTo(l []string, outs []impl.Write) []string {
	l = slices.Clone(l)
	for _, w := range outs {
		l[w.Block] = w.Text
	}
	return l
}

// mounted is what Mount answers.
type mounted struct {
	v    impl.Vol
	outs []impl.Write
	seq  int
	code int
}

var corrupt = mounted{code: 1}

func mount(l []string) mounted {
	v, outs, seq, code := impl.Mount(l)
	return mounted{v, outs, seq, code}
}

func (m mounted) same(n mounted) bool {
	return sameVol(m.v, n.v) && slices.Equal(m.outs, n.outs) && m.seq == n.seq && m.code == n.code
}

func (w blockWords) mount(l []string) mounted {
	if len(l) != 18 {
		return corrupt
	}
	var x impl.Txn
	if l[17] != "" {
		read, ok := readTxnByWords(l[17])
		if !ok {
			return corrupt
		}
		x = read
	}
	v, ok := w.read(doneTo(l[:17], x.Outs))
	if !ok {
		return corrupt
	}
	return mounted{v, x.Outs, x.Seq, 0}
}

// withLog has the blocks, and a journal behind them.
func withLog(l []string, journal string) []string { return append(slices.Clone(l), journal) }

// someWrites has count writes of blocks that rise from first on, by step, each with a text of its own.
func someWrites(first, step, count int) []impl.Write {
	var out []impl.Write
	for i := range count {
		out = append(out, write(first+i*step, "out "+strconv.Itoa(i)))
	}
	return out
}

// txnOfSize has Slots Outs, and a text of so many bytes, the sum included.
func txnOfSize(size int) impl.Txn {
	x := txnOf(1)
	for i := range 17 {
		x.Outs = append(x.Outs, write(i, ""))
	}
	for i := range 17 {
		lacks := size - len(textOfTxn(x))
		if lacks > 400 {
			lacks = 400
		}
		x.Outs[i].Text = mixedText(lacks)
		// How many bytes there are takes a second byte from 128 on.
		for len(textOfTxn(x)) > size {
			x.Outs[i].Text = x.Outs[i].Text[1:]
		}
	}
	if len(textOfTxn(x)) != size {
		panic("a text of another size")
	}
	return x
}

// shortTxns are those of which each byte is gone through.
func shortTxns() map[string]impl.Txn {
	return map[string]impl.Txn{
		"the least one":            txnOf(1, write(0, "")),
		"one Out":                  txnOf(300, write(7, "text")),
		"the last block":           txnOf(1, write(16, "z")),
		"two Outs":                 txnOf(300, write(0, "a"), write(16, "")),
		"the greatest Seq":         txnOf(1000000, write(3, "b"), write(4, "c")),
		"a text as a Txn":          txnOf(5, write(1, "t\x05\x01\x01\x00")),
		"noughts and full bytes":   txnOf(128, write(0, "\x00\x00\x00"), write(1, "\xff\xff\xff"), write(2, "\x80")),
		"Slots Outs":               txnOf(9, someWrites(0, 1, 17)...),
		"Slots Outs without bytes": txnOf(127, emptyOuts()...),
		"a volume":                 txnOf(2, diffByWords(textsOfVol(impl.NewVol()), textsOfVol(twoNames()))...),
	}
}

func emptyOuts() []impl.Write {
	var out []impl.Write
	for i := range 17 {
		out = append(out, write(i, ""))
	}
	return out
}

// rightTxns are those that ShowTxn shows.
func rightTxns() map[string]impl.Txn {
	out := shortTxns()
	for _, seq := range []int{1, 2, 127, 128, 16383, 16384, 999999, 1000000} {
		out["Seq "+strconv.Itoa(seq)] = txnOf(seq, write(2, "text"))
	}
	for count := 1; count <= 17; count++ {
		out[strconv.Itoa(count)+" Outs"] = txnOf(3, someWrites(0, 1, count)...)
		out[strconv.Itoa(count)+" Outs at the end"] = txnOf(3, someWrites(17-count, 1, count)...)
	}
	for block := range 17 {
		out["block "+strconv.Itoa(block)] = txnOf(4, write(block, "text"))
	}
	for _, size := range []int{0, 1, 127, 128, 399, 400} {
		out["a text of "+strconv.Itoa(size)] = txnOf(5, write(8, mixedText(size)))
		out["a text of "+strconv.Itoa(size)+" behind others"] = txnOf(5, write(0, "a"), write(1, ""), write(16, mixedText(size)))
	}
	for _, size := range []int{1000, 3999, 4000} {
		out["in all "+strconv.Itoa(size)+" bytes"] = txnOfSize(size)
	}
	for why, x := range out {
		if showTxnByWords(x) == "" {
			panic("a Txn that is not shown among the others: " + why)
		}
	}
	return out
}

// notRightTxns have one thing wrong, in each place.
func notRightTxns() map[string]impl.Txn {
	out := map[string]impl.Txn{
		"the zero one":            {},
		"no Outs":                 txnOf(1),
		"a list of no Outs":       {Seq: 1, Outs: []impl.Write{}},
		"Slots and one more":      txnOf(1, someWrites(0, 1, 18)...),
		"Slots and one twice":     txnOf(1, append(someWrites(0, 1, 17), write(16, "again"))...),
		"18 Outs from -1 on":      txnOf(1, someWrites(-1, 1, 18)...),
		"many Outs":               txnOf(1, make([]impl.Write, 100000)...),
		"the zero write twice":    txnOf(1, make([]impl.Write, 2)...),
		"Outs that fall":          txnOf(1, someWrites(16, -1, 17)...),
		"Seq and Outs":            txnOf(0),
		"two that fall":           txnOf(1, write(1, "a"), write(0, "b")),
		"two alike":               txnOf(1, write(1, "a"), write(1, "b")),
		"two alike with one text": txnOf(1, write(1, "a"), write(1, "a")),
		"the first again":         txnOf(1, write(0, "a"), write(1, "b"), write(0, "c")),
	}
	for _, seq := range []int{0, -1, -300, 1000001, 1000002, 1 << 32, 1<<32 + 1, impl.MaxVar, impl.MaxVar + 1, math.MaxInt, math.MinInt, math.MinInt + 1} {
		out["Seq "+strconv.Itoa(seq)] = txnOf(seq, write(2, "text"))
		out["Slots Outs, Seq "+strconv.Itoa(seq)] = txnOf(seq, someWrites(0, 1, 17)...)
	}
	for _, block := range []int{-1, -17, 17, 18, 128, 1 << 32, impl.MaxVar + 1, math.MaxInt, math.MinInt} {
		out["block "+strconv.Itoa(block)] = txnOf(1, write(block, "a"))
		for at := range 17 {
			outs := someWrites(0, 1, 17)
			outs[at].Block = block
			out["block "+strconv.Itoa(block)+" at "+strconv.Itoa(at)] = txnOf(1, outs...)
		}
	}
	for at := range 17 {
		long := emptyOuts()
		long[at].Text = strings.Repeat("t", 401)
		out["a text too long at "+strconv.Itoa(at)] = txnOf(1, long...)
		if at == 0 {
			continue
		}
		alike, falls := someWrites(0, 1, 17), someWrites(0, 1, 17)
		alike[at].Block = at - 1
		falls[at-1].Block, falls[at].Block = at, at-1
		out["two alike at "+strconv.Itoa(at)] = txnOf(1, alike...)
		out["two exchanged at "+strconv.Itoa(at)] = txnOf(1, falls...)
	}
	for _, size := range []int{401, 402, 3000, 4000, 4001, 1 << 20} {
		out["a text of "+strconv.Itoa(size)] = txnOf(1, write(3, strings.Repeat("t", size)))
	}
	for why, x := range out {
		if txnOkByWords(x) {
			panic("a right Txn among the others: " + why)
		}
	}
	return out
}

// shortened is a text that is short enough to be told where a test fails.
func shortened(s string) string {
	if len(s) > 60 {
		return strconv.Quote(s[:50]) + "..(" + strconv.Itoa(len(s)) + ")"
	}
	return strconv.Quote(s)
}

func shownTxn(x impl.Txn) string {
	out := "{" + strconv.Itoa(x.Seq) + ":"
	for i, w := range x.Outs {
		if i == 20 {
			out += " ..(" + strconv.Itoa(len(x.Outs)) + ")"
			break
		}
		out += " " + strconv.Itoa(w.Block) + ":" + shortened(w.Text)
	}
	return out + "}"
}

// bytesShare asks whether two texts have a byte in common, wherever they begin.
func bytesShare(texts []string) bool {
	texts = slices.DeleteFunc(slices.Clone(texts), func(s string) bool { return s == "" })
	begin := func(s string) uintptr { return uintptr(unsafe.Pointer(unsafe.StringData(s))) }
	slices.SortFunc(texts, func(a, b string) int {
		if begin(a) < begin(b) {
			return -1
		}
		return 1
	})
	for i := 1; i < len(texts); i++ {
		if begin(texts[i-1])+uintptr(len(texts[i-1])) > begin(texts[i]) {
			return true
		}
	}
	return false
}

func textsOfWrites(l []impl.Write) []string {
	var out []string
	for _, w := range l {
		out = append(out, w.Text)
	}
	return out
}

func (m mounted) texts() []string {
	out := textsOfWrites(m.outs)
	for _, n := range m.v.Inodes {
		out = append(out, n.Data)
		for _, e := range n.Ents {
			out = append(out, e.Name)
		}
	}
	return out
}

// wantShown asks an answer of ShowTxn, that what was given is left, and that nothing is shared.
func wantShown(t *testing.T, why string, x impl.Txn, want string) {
	t.Helper()
	outs, left := roomyWrites(x.Outs)
	got := impl.ShowTxn(impl.Txn{Seq: x.Seq, Outs: outs})
	if got != want {
		t.Errorf("ShowTxn of %s (%s)\n is   %s\n want %s", shownTxn(x), why, shortened(got), shortened(want))
		return
	}
	if !left() {
		t.Errorf("ShowTxn of %s (%s): what it was given is changed", shownTxn(x), why)
	}
	outs, writeOver := looseWrites(x.Outs)
	got = impl.ShowTxn(impl.Txn{Seq: x.Seq, Outs: outs})
	writeOver()
	if got != want {
		t.Errorf("ShowTxn of %s (%s): the answer shares bytes with what was given", shownTxn(x), why)
	}
	if again := impl.ShowTxn(x); again != want || bytesShare([]string{got, again}) {
		t.Errorf("ShowTxn of %s (%s): two answers are not alike, or share bytes", shownTxn(x), why)
	}
}

// wantTxn asks an answer of ReadTxn, and that nothing is shared.
func wantTxn(t *testing.T, why string, s string, want impl.Txn, wantOk bool) {
	t.Helper()
	given, bytes := loose(s)
	got, ok := impl.ReadTxn(given)
	if given != s {
		t.Errorf("ReadTxn of %s (%s): what it was given is changed", shortened(s), why)
	}
	overwrite([][]byte{bytes})
	if ok != wantOk || !sameTxn(got, want) {
		t.Errorf("ReadTxn of %s (%s)\n is   %s, %v\n want %s, %v", shortened(s), why, shownTxn(got), ok, shownTxn(want), wantOk)
		return
	}
	if !ok {
		return
	}
	again, _ := impl.ReadTxn(s)
	if bytesShare(append(textsOfWrites(got.Outs), textsOfWrites(again.Outs)...)) {
		t.Errorf("ReadTxn of %s (%s): texts of the answers share bytes", shortened(s), why)
	}
	spoilWrites(got.Outs)
	if last, _ := impl.ReadTxn(s); !sameTxn(again, want) || !sameTxn(last, want) {
		t.Errorf("ReadTxn of %s (%s): the answer is changed with an earlier one", shortened(s), why)
	}
}

func wantNoTxn(t *testing.T, why string, s string) {
	t.Helper()
	wantTxn(t, why, s, impl.Txn{}, false)
}

// wantTxnByWords asks an answer as the words have it, and that it is shown again; it tells whether the text is taken.
func wantTxnByWords(t *testing.T, why string, s string) bool {
	t.Helper()
	want, wantOk := readTxnByWords(s)
	wantTxn(t, why, s, want, wantOk)
	if got, ok := impl.ReadTxn(s); ok && impl.ShowTxn(got) != s {
		t.Errorf("ReadTxn of %s (%s) = %s, which is shown otherwise", shortened(s), why, shownTxn(got))
	}
	return wantOk
}

// wantDiff asks an answer of Diff, that what was given is left, and that nothing is shared.
func wantDiff(t *testing.T, why string, a, b []string, want []impl.Write) {
	t.Helper()
	ga, leftA := roomyTexts(a)
	gb, leftB := roomyTexts(b)
	got := impl.Diff(ga, gb)
	if !slices.Equal(got, want) {
		t.Errorf("Diff of %.300q\n and %.300q (%s)\n is   %s\n want %s", a, b, why, shownTxn(txnOf(0, got...)), shownTxn(txnOf(0, want...)))
		return
	}
	again := impl.Diff(ga, gb)
	if bytesShare(append(textsOfWrites(got), textsOfWrites(again)...)) {
		t.Errorf("Diff (%s): texts of the answers share bytes", why)
	}
	spoilWrites(got)
	if !leftA() || !leftB() {
		t.Errorf("Diff of %.300q and %.300q (%s): what it was given is changed", a, b, why)
	}
	if !slices.Equal(again, want) || !slices.Equal(impl.Diff(ga, gb), want) {
		t.Errorf("Diff (%s): the answer is changed with an earlier one", why)
	}
	spoilTexts(ga)
	spoilTexts(gb)
	if !slices.Equal(again, want) {
		t.Errorf("Diff (%s): the answer is changed with what was given", why)
	}
	la, overA := looseTexts(a)
	lb, overB := looseTexts(b)
	got = impl.Diff(la, lb)
	overA()
	overB()
	if !slices.Equal(got, want) {
		t.Errorf("Diff (%s): the texts of the answer share bytes with what was given", why)
	}
}

// wantMount asks an answer of Mount, that what was given is left, and that nothing is shared.
func wantMount(t *testing.T, why string, l []string, want mounted) {
	t.Helper()
	given, left := roomyTexts(l)
	got := mount(given)
	if !got.same(want) {
		t.Errorf("Mount of %.600q (%s)\n is   %+v\n want %+v", l, why, got, want)
		return
	}
	if !left() {
		t.Errorf("Mount of %.600q (%s): what it was given is changed", l, why)
	}
	again := mount(given)
	if listsShare(got.v) || bytesShare(append(got.texts(), again.texts()...)) {
		t.Errorf("Mount of %.600q (%s): lists or texts of the answers share memory", l, why)
	}
	spoil(got.v, -9)
	if !slices.Equal(got.outs, want.outs) {
		t.Errorf("Mount of %.600q (%s): the Outs are changed with the volume", l, why)
	}
	spoilWrites(got.outs)
	if !left() || !again.same(want) || !mount(given).same(want) {
		t.Errorf("Mount of %.600q (%s): something is changed with an earlier answer", l, why)
	}
	spoilWrites(again.outs)
	if !sameVol(again.v, want.v) {
		t.Errorf("Mount of %.600q (%s): the volume is changed with the Outs", l, why)
	}
	got = mount(given)
	spoilTexts(given)
	shown, writeOver := looseTexts(l)
	loosely := mount(shown)
	writeOver()
	if !got.same(want) || !loosely.same(want) {
		t.Errorf("Mount of %.600q (%s): the answer is changed with what was given", l, why)
	}
}

// wantMountByWords asks an answer as the words have it, and promise 9 of it; it tells whether there is a volume.
func (w blockWords) wantMountByWords(t *testing.T, why string, l []string) bool {
	t.Helper()
	got, want := mount(l), w.mount(l)
	if !got.same(want) {
		t.Errorf("Mount of %.600q (%s)\n is   %+v\n want %+v", l, why, got, want)
	}
	if got.code == impl.MtOk && !w.ok(got.v) {
		t.Errorf("Mount of %.600q (%s) tells a volume that is not right: %+v", l, why, got.v)
	}
	return got.code == impl.MtOk
}

func TestLogConstants(t *testing.T) {
	if impl.LogAt != 17 || impl.MaxSeq != 1000000 || impl.MtOk != 0 || impl.MtCorrupt != 1 {
		t.Error(impl.LogAt, impl.MaxSeq, impl.MtOk, impl.MtCorrupt)
	}
}

// TestTxnsByHand has texts that are written out, their sums too.
func TestTxnsByHand(t *testing.T) {
	long := strings.Repeat("x", 400)
	for _, x := range []struct {
		txn  impl.Txn
		body string
	}{
		{txnOf(1, write(0, "")), "t\x01\x01\x00\x00"},
		{txnOf(300, write(0, "a"), write(16, "")), "t\xac\x02\x02\x00\x01a\x10\x00"},
		{txnOf(1000000, write(5, "\x00\xff")), "t\xc0\x84\x3d\x01\x05\x02\x00\xff"},
		{txnOf(127, write(1, "u\x02\x01"), write(2, "i"), write(3, "t")), "t\x7f\x03\x01\x03u\x02\x01\x02\x01i\x03\x01t"},
		{txnOf(128, write(16, long)), "t\x80\x01\x01\x10\x90\x03" + long},
	} {
		s := impl.Fixed(impl.Crc(x.body), 4) + x.body
		wantShown(t, "by hand", x.txn, s)
		wantTxn(t, "by hand", s, x.txn, true)
		if s != summed(x.body) {
			t.Errorf("the sum of %q", x.body)
		}
	}
	wantShown(t, "the sum by hand", txnOf(1, write(0, "")), "\x7e\xe8\x4e\x69t\x01\x01\x00\x00")
}

func TestShowTxnOfRightTxns(t *testing.T) {
	for why, x := range rightTxns() {
		s := textOfTxn(x)
		wantShown(t, why, x, s)
		wantTxn(t, why, s, x, true)
	}
}

func TestShowTxnOfTxnsThatAreNotRight(t *testing.T) {
	for why, x := range notRightTxns() {
		wantShown(t, why, x, "")
	}
}

// TestReadTxnOfTxnsThatAreNotRight reads what would be written of them, with a sum that fits.
func TestReadTxnOfTxnsThatAreNotRight(t *testing.T) {
	for why, x := range notRightTxns() {
		if len(x.Outs) <= 20 {
			wantTxnByWords(t, why, textOfTxn(x))
		}
	}
	for why, body := range map[string]string{
		"Seq 0":              "t\x00\x01\x00\x01a",
		"Seq 1000001":        "t\xc1\x84\x3d\x01\x00\x01a",
		"Seq MaxVar":         "t\xff\xff\xff\xff\xff\xff\x7f\x01\x00\x01a",
		"no Outs":            "t\x01\x00",
		"18 Outs":            "t\x01\x12" + strings.Repeat("\x00\x00", 18),
		"Outs that do not":   "t\x01\x02\x00\x00\x00\x00",
		"Outs that fall":     "t\x01\x02\x01\x00\x00\x00",
		"block 17":           "t\x01\x01\x11\x00",
		"a text of 401":      "t\x01\x01\x00\x91\x03" + strings.Repeat("x", 401),
		"many Outs":          "t\x01\xe8\x07" + strings.Repeat("\x00\x00", 1000),
		"as many as MaxVar":  "t\x01\xff\xff\xff\xff\xff\xff\x7f" + strings.Repeat("\x00\x00", 1000),
		"a text as MaxVar":   "t\x01\x01\x00\xff\xff\xff\xff\xff\xff\x7fa",
		"another mark":       "T\x01\x01\x00\x01a",
		"no mark":            "\x01\x01\x00\x01a",
		"a mark alone":       "t",
		"nothing":            "",
		"a Seq alone":        "t\x01",
		"a Seq without end":  "t\x80",
		"an Out that lacks":  "t\x01\x02\x00\x01a",
		"a text that lacks":  "t\x01\x01\x00\x02a",
		"a byte of no Out":   "t\x01\x01\x00\x01ab",
		"a volume's head":    "u\x02\x01",
		"an inode":           "i\x01\x02\x01\x00\x00",
		"a Txn behind a Txn": "t\x01\x01\x00\x01a" + "t\x01\x01\x00\x01a",
	} {
		wantNoTxn(t, why, summed(body))
		wantNoTxn(t, why+", without a sum", body)
	}
	wantNoTxn(t, "two sums", summed(summed("t\x01\x01\x00\x01a")))
	wantTxn(t, "one that is right", summed("t\x01\x01\x00\x01a"), txnOf(1, write(0, "a")), true)
}

// TestShowTxnUpToMaxBlock asks of texts of MaxBlock bytes, the sum included, and of one more.
func TestShowTxnUpToMaxBlock(t *testing.T) {
	for size := 3990; size <= 4010; size++ {
		x := txnOfSize(size)
		if !txnOkByWords(x) {
			t.Fatal("not right", shownTxn(x))
		}
		s := textOfTxn(x)
		if size > 4000 {
			wantShown(t, "more than MaxBlock", x, "")
			wantNoTxn(t, "more than MaxBlock", s)
			continue
		}
		wantShown(t, "up to MaxBlock", x, s)
		wantTxn(t, "up to MaxBlock", s, x, true)
	}
	// Ten Outs are enough to come there, and Slots that are full are far behind.
	var ten []impl.Write
	for i := range 10 {
		ten = append(ten, write(i, strings.Repeat("x", 396)))
	}
	for last := 350; last <= 400; last++ {
		ten[9].Text = strings.Repeat("x", last)
		x := txnOf(7, ten...)
		if got := impl.ShowTxn(x); (len(textOfTxn(x)) <= 4000) != (got != "") || got != showTxnByWords(x) {
			t.Errorf("ten Outs, the last of %d bytes: %s", last, shortened(got))
		}
	}
	var full []impl.Write
	for i := range 17 {
		full = append(full, write(i, mixedText(400)))
		x := txnOf(1000000, full...)
		wantShown(t, "full Outs", x, showTxnByWords(x))
		wantTxnByWords(t, "full Outs", textOfTxn(x))
	}
	if impl.ShowTxn(txnOf(1, full[:9]...)) == "" || impl.ShowTxn(txnOf(1, full[:10]...)) != "" {
		t.Error("nine full Outs fit, ten do not")
	}
}

// TestTxnsOfEachChoiceOfBlocks goes through all rising lists of blocks.
func TestTxnsOfEachChoiceOfBlocks(t *testing.T) {
	for choice := 1; choice < 1<<17; choice++ {
		x := txnOf(1 + choice)
		for i := range 17 {
			if choice>>i&1 == 1 {
				x.Outs = append(x.Outs, write(i, "x"))
			}
		}
		s := impl.ShowTxn(x)
		if got, ok := impl.ReadTxn(s); s == "" || !ok || !sameTxn(got, x) {
			t.Fatalf("%s is shown as %s and read as %s, %v", shownTxn(x), shortened(s), shownTxn(got), ok)
		}
		if choice%97 == 0 {
			wantShown(t, "each choice of blocks", x, textOfTxn(x))
		}
	}
}

// TestTxnsOfTwoOrThreeBlocks takes all lists of them, rising or not.
func TestTxnsOfTwoOrThreeBlocks(t *testing.T) {
	for a := -1; a <= 18; a++ {
		for b := -1; b <= 18; b++ {
			x := txnOf(2, write(a, "a"), write(b, "b"))
			wantShown(t, "two blocks", x, showTxnByWords(x))
			wantTxnByWords(t, "two blocks", textOfTxn(x))
			for c := -1; c <= 18; c++ {
				x := txnOf(2, write(a, ""), write(b, "b"), write(c, ""))
				if got, want := impl.ShowTxn(x), showTxnByWords(x); got != want {
					t.Errorf("%s is shown as %q, want %q", shownTxn(x), got, want)
				}
			}
		}
	}
}

func TestReadTxnOfTheEmptyText(t *testing.T) {
	wantNoTxn(t, "the empty text", "")
	for length := range 4 {
		textsOf("t\x00\x01\xff", length, func(s string) {
			wantNoTxn(t, "short texts", s)
			wantTxnByWords(t, "short texts with a sum", summed(s))
		})
	}
	for size := range 12 {
		wantNoTxn(t, "noughts", strings.Repeat("\x00", size))
		wantNoTxn(t, "full bytes", strings.Repeat("\xff", size))
	}
}

// TestReadTxnWithEachByteTurned is promise 9: of the 255 other bytes none is taken, in the sum or behind it.
func TestReadTxnWithEachByteTurned(t *testing.T) {
	for why, x := range shortTxns() {
		s := impl.ShowTxn(x)
		for at := range len(s) {
			for b := range 256 {
				if byte(b) == s[at] {
					continue
				}
				turned := withByte(s, at, byte(b))
				if got, ok := impl.ReadTxn(turned); ok || !sameTxn(got, impl.Txn{}) {
					t.Errorf("%s: with byte %d at %d it is read as %s, %v", why, b, at, shownTxn(got), ok)
				}
			}
		}
	}
	for _, size := range []int{1000, 4000} {
		s := impl.ShowTxn(txnOfSize(size))
		for at := range len(s) {
			for _, by := range []byte{1, 2, 4, 8, 16, 32, 64, 128, 255, byte(1 + at%255)} {
				if got, ok := impl.ReadTxn(withByte(s, at, s[at]^by)); ok || !sameTxn(got, impl.Txn{}) {
					t.Errorf("%d bytes: with byte %d turned by %d it is read as %s, %v", size, at, by, shownTxn(got), ok)
				}
			}
		}
	}
}

// TestSumsOfTxnsWithOneByteTurned is what promise 2 gives the journal: at one place no two bytes have one sum.
func TestSumsOfTxnsWithOneByteTurned(t *testing.T) {
	for why, x := range shortTxns() {
		wantSumsDiffer(t, why, impl.ShowTxn(x)[4:], 1)
	}
	wantSumsDiffer(t, "of MaxBlock bytes", impl.ShowTxn(txnOfSize(4000))[4:], 61)
}

func wantSumsDiffer(t *testing.T, why, body string, step int) {
	t.Helper()
	for at := 0; at < len(body); at += step {
		seen := map[int]int{}
		for b := range 256 {
			sum := impl.Crc(withByte(body, at, byte(b)))
			if other, ok := seen[sum]; ok {
				t.Errorf("%s: byte %d or %d at %d has one sum", why, b, other, at)
			}
			seen[sum] = b
		}
	}
}

// TestReadTxnWithEachByteTurnedAndASumThatFits is of other Txns, where there are such.
func TestReadTxnWithEachByteTurnedAndASumThatFits(t *testing.T) {
	taken, refused := 0, 0
	for why, x := range shortTxns() {
		body := impl.ShowTxn(x)[4:]
		for at := range len(body) {
			for b := range 256 {
				if wantTxnByWords(t, why+", turned", summed(withByte(body, at, byte(b)))) {
					taken++
				} else {
					refused++
				}
			}
		}
	}
	if taken == 0 || refused == 0 {
		t.Error("taken and refused:", taken, refused)
	}
}

func TestReadTxnThatIsCut(t *testing.T) {
	for why, x := range shortTxns() {
		s := impl.ShowTxn(x)
		body := s[4:]
		for cut := range len(s) {
			wantNoTxn(t, why+", cut", s[:cut])
			wantNoTxn(t, why+", cut at its beginning", s[cut+1:])
		}
		for cut := range len(body) {
			wantNoTxn(t, why+", cut, and the sum fits", summed(body[:cut]))
			// A text of an Out may be one of a Txn itself.
			wantTxnByWords(t, why+", cut at its beginning, and the sum fits", summed(body[cut+1:]))
		}
	}
	s := impl.ShowTxn(txnOfSize(4000))
	for cut := range len(s) {
		if got, ok := impl.ReadTxn(s[:cut]); ok || !sameTxn(got, impl.Txn{}) {
			t.Errorf("cut at %d it is read as %s, %v", cut, shownTxn(got), ok)
		}
	}
}

func TestReadTxnWithMoreBytes(t *testing.T) {
	for why, x := range shortTxns() {
		s := impl.ShowTxn(x)
		for b := range 256 {
			one := string([]byte{byte(b)})
			wantNoTxn(t, why+", a byte behind", s+one)
			wantNoTxn(t, why+", a byte ahead", one+s)
			wantNoTxn(t, why+", a byte behind, and the sum fits", summed(s[4:]+one))
			wantNoTxn(t, why+", a byte ahead, and the sum fits", summed(one+s[4:]))
		}
		for _, more := range []string{"\x00\x00", s, strings.Repeat("\x00", 4000), strings.Repeat("\x00", 1<<20)} {
			wantNoTxn(t, why+", more behind", s+more)
			wantNoTxn(t, why+", more behind, and the sum fits", summed(s[4:]+more))
		}
	}
	for why, x := range rightTxns() {
		for _, one := range []string{"\x00", "\x01", "t", "\x80", "\xff"} {
			wantNoTxn(t, why+", a byte behind", impl.ShowTxn(x)+one)
			wantNoTxn(t, why+", a byte behind, and the sum fits", summed(impl.ShowTxn(x)[4:]+one))
		}
	}
}

// withTxnPart has the text with another one in place of one part, and a sum that fits.
func withTxnPart(parts []blockPart, at int, text string) string {
	parts = slices.Clone(parts)
	parts[at] = bytesPart(text)
	return summed(textOfParts(parts))
}

func TestReadTxnWithBytesThatAreNotNeeded(t *testing.T) {
	for why, x := range rightTxns() {
		parts := txnParts(x)
		for at, p := range parts {
			if !p.number {
				continue
			}
			text := p.text()
			last := len(text) - 1
			longer := text[:last] + string([]byte{text[last] + 128})
			for noughts := range 8 {
				wantNoTxn(t, why+", a Var with bytes that are not needed", withTxnPart(parts, at, longer+strings.Repeat("\x80", noughts)+"\x00"))
			}
			wantNoTxn(t, why+", a Var that does not end", withTxnPart(parts, at, longer))
		}
	}
}

func TestReadTxnWithOtherNumbers(t *testing.T) {
	taken, refused := 0, 0
	for why, x := range rightTxns() {
		parts := txnParts(x)
		for at, p := range parts {
			if !p.number {
				continue
			}
			for _, n := range []int{p.n - 1, p.n + 1, p.n + 128, 0, 1, 16, 17, 18, 400, 401, 1000000, 1000001, 1<<32 + p.n, impl.MaxVar} {
				if wantTxnByWords(t, why+", another number", withTxnPart(parts, at, varText(n))) {
					taken++
				} else {
					refused++
				}
			}
			wantTxnByWords(t, why+", a number lacks", withTxnPart(parts, at, ""))
		}
	}
	if taken == 0 || refused == 0 {
		t.Error("taken and refused:", taken, refused)
	}
}

// TestReadTxnWithOtherSums has sums that are near to the right one: turned, in the other order, of more or of less.
func TestReadTxnWithOtherSums(t *testing.T) {
	for why, x := range rightTxns() {
		s := impl.ShowTxn(x)
		body := s[4:]
		sum := crcBySteps(body)
		back := string([]byte{s[3], s[2], s[1], s[0]})
		for _, other := range []string{
			impl.Fixed((sum+1)%(1<<32), 4), impl.Fixed((sum+1<<32-1)%(1<<32), 4), impl.Fixed(1<<32-1-sum, 4), back,
			"\x00\x00\x00\x00", "\xff\xff\xff\xff", impl.Fixed(crcBySteps(s), 4), impl.Fixed(crcBySteps(body[1:]), 4), impl.Fixed(crcBySteps("\x00\x00\x00\x00"+body), 4),
		} {
			if other != s[:4] {
				wantNoTxn(t, why+", another sum", other+body)
			}
		}
		wantNoTxn(t, why+", without a sum", body)
		wantNoTxn(t, why+", the sum behind", body+s[:4])
	}
}

func TestReadTxnOfAnyBytes(t *testing.T) {
	s := steady{9}
	taken := 0
	for range 20000 {
		body := "t" + s.bytesBelow(s.below(12))
		if s.below(2) == 0 {
			body = "t\x07\x02" + s.bytesBelow(s.below(9))
		}
		wantNoTxn(t, "any bytes", s.bytesBelow(s.below(20)))
		if wantTxnByWords(t, "any bytes with a sum", summed(body)) {
			taken++
		}
	}
	if taken == 0 {
		t.Error("nothing was taken")
	}
}

// numberedTexts has 17 texts, each of its own.
func numberedTexts(name string) []string {
	var l []string
	for i := range 17 {
		l = append(l, name+strconv.Itoa(i))
	}
	return l
}

func TestDiffOfListsThatAreAlike(t *testing.T) {
	w := newBlockWords(t)
	lists := map[string][]string{"numbered": numberedTexts("a"), "empty": make([]string, 17), "long": slices.Repeat([]string{mixedText(5000)}, 17)}
	for why, v := range w.rightVols(t) {
		lists[why] = textsOfVol(v)
	}
	for why, l := range lists {
		wantDiff(t, why, l, l, nil)
		other, _ := looseTexts(l)
		wantDiff(t, why+", in other memory", l, other, nil)
		if got := impl.Diff(l, l); len(got) != 0 {
			t.Errorf("%s: a list and itself: %v", why, got)
		}
	}
}

func TestDiffAtEachPlace(t *testing.T) {
	a := numberedTexts("a")
	for at := range 17 {
		for _, text := range []string{"", "b", a[at] + "\x00", a[at][:1], a[(at+1)%17], mixedText(400), mixedText(5000)} {
			wantDiff(t, "at "+strconv.Itoa(at), a, withText(a, at, text), []impl.Write{write(at, text)})
			wantDiff(t, "at "+strconv.Itoa(at)+", back", withText(a, at, text), a, []impl.Write{write(at, a[at])})
		}
		for other := range at {
			b := withText(withText(a, other, "x"), at, "y")
			wantDiff(t, "at two places", a, b, []impl.Write{write(other, "x"), write(at, "y")})
		}
	}
	b := numberedTexts("b")
	var all []impl.Write
	for i, text := range b {
		all = append(all, write(i, text))
	}
	wantDiff(t, "at all places", a, b, all)
	wantDiff(t, "against empty texts", make([]string, 17), b, all)
	wantDiff(t, "to empty texts", b, make([]string, 17), emptyOuts())
}

// TestDiffAtEachChoiceOfPlaces asks for all choices that the writes are those, rising, and lead to the other list.
func TestDiffAtEachChoiceOfPlaces(t *testing.T) {
	a, b := numberedTexts("a"), numberedTexts("b")
	b[3], b[16] = "", ""
	for choice := range 1 << 17 {
		to := slices.Clone(a)
		for i := range 17 {
			if choice>>i&1 == 1 {
				to[i] = b[i]
			}
		}
		got := impl.Diff(a, to)
		if !slices.Equal(got, diffByWords(a, to)) || !slices.Equal(doneTo(a, got), to) {
			t.Fatalf("Diff to %q is %v", to, got)
		}
	}
}

func TestDiffOfListsThatHaveNotSlots(t *testing.T) {
	sizes := []int{0, 1, 2, 15, 16, 17, 18, 19, 34}
	for _, one := range sizes {
		for _, other := range sizes {
			if one == 17 && other == 17 {
				continue
			}
			a, b := make([]string, one), make([]string, other)
			wantDiff(t, "empty texts", a, b, nil)
			for i := range a {
				a[i] = "a"
			}
			for i := range b {
				b[i] = "b"
			}
			wantDiff(t, "other texts", a, b, nil)
		}
		if one != 17 {
			wantDiff(t, "nil", nil, make([]string, one), nil)
		}
	}
	wantDiff(t, "nil and 17", nil, numberedTexts("b"), nil)
	wantDiff(t, "17 and nil", numberedTexts("a"), nil, nil)
	wantDiff(t, "18 and 17", append(numberedTexts("a"), "more"), numberedTexts("b"), nil)
	wantDiff(t, "17 and 18", numberedTexts("a"), append(numberedTexts("b"), "more"), nil)
}

// TestDiffLeadsFromOneVolumeToTheOther is promise 9 of volumes, by hand and by a device.
func TestDiffLeadsFromOneVolumeToTheOther(t *testing.T) {
	w := newBlockWords(t)
	vols := w.rightVols(t)
	for from, v := range vols {
		for to, u := range vols {
			a, b := impl.VolBlocks(v), impl.VolBlocks(u)
			outs := impl.Diff(a, b)
			wantDiff(t, from+" to "+to, a, b, diffByWords(a, b))
			if !slices.Equal(doneTo(a, outs), b) {
				t.Errorf("from %s it does not lead to %s", from, to)
			}
			d, ok := impl.Put(impl.Dev{Blocks: withLog(a, "")}, outs)
			if !ok || !slices.Equal(impl.Flush(d).Blocks, withLog(b, "")) {
				t.Errorf("from %s it does not lead a device to %s", from, to)
			}
			if len(outs) > 0 && impl.ShowTxn(txnOf(1, outs...)) != showTxnByWords(txnOf(1, outs...)) {
				t.Errorf("from %s to %s is shown otherwise", from, to)
			}
		}
	}
}

func TestDiffOfListsWithinOneAnother(t *testing.T) {
	all := numberedTexts("a")
	all = append(all, "last")
	before := slices.Clone(all)
	var want []impl.Write
	for i := range 17 {
		want = append(want, write(i, before[i+1]))
	}
	if got := impl.Diff(all[:17], all[1:]); !slices.Equal(got, want) || !slices.Equal(all, before) {
		t.Error(got, all)
	}
}

func TestFormat(t *testing.T) {
	want := append(filled("u\x02\x01", "i\x01\x02\x01\x00\x00"), "")
	got := impl.Format()
	if len(got) != 18 || !slices.Equal(got, want) || !slices.Equal(got, withLog(impl.VolBlocks(impl.NewVol()), "")) {
		t.Fatalf("%q", got)
	}
	again := impl.Format()
	if bytesShare(append(slices.Clone(got), again...)) {
		t.Error("texts of two answers share bytes")
	}
	spoilTexts(got)
	if !slices.Equal(again, want) || !slices.Equal(impl.Format(), want) {
		t.Error("it is changed with an earlier one")
	}
	if !impl.DevOk(impl.Dev{Blocks: impl.Format()}) {
		t.Error("a device cannot have these")
	}
	wantMount(t, "Format", impl.Format(), mounted{v: impl.NewVol()})
}

func TestMountByHand(t *testing.T) {
	a := filled("u\x02\x01", "i\x01\x02\x01\x00\x00")
	one := impl.NewVol()
	one.Next = 3
	wantMount(t, "an empty journal", withLog(a, ""), mounted{v: impl.NewVol()})
	wantMount(t, "another Next", withLog(a, summed("t\x05\x01\x00\x03u\x03\x01")), mounted{one, []impl.Write{write(0, "u\x03\x01")}, 5, 0})
	wantMount(t, "another Next that is there", withLog(withText(a, 0, "u\x03\x01"), summed("t\x05\x01\x00\x03u\x03\x01")), mounted{one, []impl.Write{write(0, "u\x03\x01")}, 5, 0})
	wantMount(t, "another Next and an empty journal", withLog(withText(a, 0, "u\x03\x01"), ""), mounted{v: one})
	wantMount(t, "a block goes", withLog(withText(a, 16, "what"), summed("t\x01\x01\x10\x00")), mounted{impl.NewVol(), []impl.Write{write(16, "")}, 1, 0})
	wantMount(t, "a block that is none, and an empty journal", withLog(withText(a, 16, "what"), ""), corrupt)
	wantMount(t, "an Out that is none", withLog(a, summed("t\x01\x01\x10\x04what")), corrupt)
	wantMount(t, "a journal that is none", withLog(a, "garbage"), corrupt)
	wantMount(t, "a journal of one nought", withLog(a, "\x00"), corrupt)
	wantMount(t, "a journal without a sum", withLog(a, "t\x05\x01\x00\x03u\x03\x01"), corrupt)
	wantMount(t, "a journal of no Outs", withLog(a, summed("t\x05\x00")), corrupt)
	wantMount(t, "a journal of Seq 0", withLog(a, summed("t\x00\x01\x00\x03u\x03\x01")), corrupt)
	wantMount(t, "a journal that writes the journal", withLog(a, summed("t\x05\x01\x11\x00")), corrupt)
	wantMount(t, "a journal that writes the journal too", withLog(a, summed("t\x05\x02\x00\x03u\x03\x01\x11\x00")), corrupt)
	wantMount(t, "the greatest Seq", withLog(a, summed("t\xc0\x84\x3d\x01\x00\x03u\x02\x01")), mounted{impl.NewVol(), []impl.Write{write(0, "u\x02\x01")}, 1000000, 0})
}

func TestMountWithAnEmptyJournal(t *testing.T) {
	w := newBlockWords(t)
	for why, v := range w.rightVols(t) {
		wantMount(t, why, withLog(textsOfVol(v), ""), mounted{v: v})
	}
	for why, v := range notRightVols(t, w.volWords) {
		l := withLog(textsOfVol(v), "")
		wantMount(t, why, l, w.mount(l))
	}
	for _, l := range [][]string{make([]string, 18), slices.Repeat([]string{"u\x02\x01"}, 18), withText(make([]string, 18), 17, "x")} {
		wantMount(t, "no volume", l, corrupt)
	}
}

// A leap is a transaction from one volume to another one.
type leap struct {
	why      string
	from, to []string
	v        impl.Vol
	txn      impl.Txn
}

// leaps has those between the volumes whose transaction can be shown.
func (w blockWords) leaps(t *testing.T, most int) []leap {
	vols := w.plainVols(t)
	names := slices.Sorted(maps.Keys(vols))
	var out []leap
	seq := 1
	for _, from := range names {
		for _, to := range names {
			l := leap{from + " to " + to, textsOfVol(vols[from]), textsOfVol(vols[to]), vols[to], txnOf(seq)}
			l.txn.Outs = diffByWords(l.from, l.to)
			seq++
			if showTxnByWords(l.txn) != "" && len(l.txn.Outs) <= most {
				out = append(out, l)
			}
		}
	}
	if len(out) < 3 {
		t.Fatal("only so many leaps:", len(out))
	}
	return out
}

func (l leap) journal() string { return textOfTxn(l.txn) }

func (l leap) told() mounted { return mounted{l.v, l.txn.Outs, l.txn.Seq, 0} }

// inPart has the blocks where the Outs of a choice stand in their place, and the others do not.
func (l leap) inPart(choice int) []string {
	out := slices.Clone(l.from)
	for i, w := range l.txn.Outs {
		if choice>>i&1 == 1 {
			out[w.Block] = w.Text
		}
	}
	return withLog(out, l.journal())
}

// TestMountWhateverPartStandsInItsPlace is promise 9: of each part of the Outs one and the same volume is told.
func TestMountWhateverPartStandsInItsPlace(t *testing.T) {
	w := newBlockWords(t)
	for _, l := range w.leaps(t, 17) {
		parts := 1 << len(l.txn.Outs)
		// Of more than ten Outs there are so many parts that only the volumes that are soon read are asked for all of them.
		step := 1 + parts/2048
		if len(l.v.Inodes) == 1 {
			step = 1
		}
		for choice := 0; choice < parts; choice += step {
			if got := mount(l.inPart(choice)); !got.same(l.told()) {
				t.Fatalf("%s, part %b:\n is   %+v\n want %+v", l.why, choice, got, l.told())
			}
		}
		for _, choice := range []int{0, 1, parts / 2, parts - 2, parts - 1} {
			wantMount(t, l.why, l.inPart(choice), l.told())
		}
	}
}

// TestMountBehindEachCrash has a device do the same: the journal is on it, and of the Outs any are lost.
func TestMountBehindEachCrash(t *testing.T) {
	w := newBlockWords(t)
	for _, l := range w.leaps(t, 7) {
		d, ok := impl.Put(impl.Dev{Blocks: withLog(l.from, impl.ShowTxn(l.txn))}, l.txn.Outs)
		if !ok {
			t.Fatal("the device refuses", l.why)
		}
		for mask := range 1 << len(l.txn.Outs) {
			if got := mount(impl.Crash(d, mask).Blocks); !got.same(l.told()) {
				t.Fatalf("%s, behind a crash by %b:\n is   %+v\n want %+v", l.why, mask, got, l.told())
			}
		}
		// Once they are done, mounting again tells the same, with the journal and without it.
		done := impl.Flush(d).Blocks
		wantMount(t, l.why+", done", done, l.told())
		wantMount(t, l.why+", done, no journal", withText(done, 17, ""), mounted{v: l.v})
	}
}

// TestMountDoesNotLookAtWhatIsWrittenOver has anything where an Out comes.
func TestMountDoesNotLookAtWhatIsWrittenOver(t *testing.T) {
	w := newBlockWords(t)
	for _, l := range w.leaps(t, 17) {
		for _, over := range []string{"", "garbage", "\x00", "u\x02\x01", l.journal(), mixedText(4000), mixedText(4001)} {
			blocks := l.inPart(0)
			for _, out := range l.txn.Outs {
				wantMount(t, l.why+", over "+shortened(over), withText(blocks, out.Block, over), l.told())
			}
			for _, out := range l.txn.Outs {
				blocks[out.Block] = over
			}
			wantMount(t, l.why+", all over "+shortened(over), blocks, l.told())
		}
	}
}

// TestMountWithoutTheJournal tells the volume of before, or of behind, or none.
func TestMountWithoutTheJournal(t *testing.T) {
	w := newBlockWords(t)
	none := 0
	for _, l := range w.leaps(t, 8) {
		for choice := range 1 << len(l.txn.Outs) {
			if !w.wantMountByWords(t, l.why, withText(l.inPart(choice), 17, "")) {
				none++
			}
		}
	}
	if none == 0 {
		t.Error("a volume without its journal is always whole")
	}
}

func TestMountOfAJournalThatIsNotTaken(t *testing.T) {
	w := newBlockWords(t)
	for _, l := range w.leaps(t, 17) {
		s := l.journal()
		for _, other := range []string{"garbage", "\x00", s + "\x00", s[:len(s)-1], s[4:], s[1:], s + s, summed(s), summed(s[4:] + "\x00"), mixedText(4000), mixedText(4001), strings.Repeat("\x00", 4000)} {
			// Nor where all stands in its place, so that nothing would be needed of it.
			wantMount(t, l.why+", before", withLog(l.from, other), corrupt)
			wantMount(t, l.why+", behind", withLog(l.to, other), corrupt)
		}
		for at := range len(s) {
			for _, by := range []byte{1, 16, 128, 255} {
				turned := withLog(l.to, withByte(s, at, s[at]^by))
				if got := mount(turned); !got.same(corrupt) {
					t.Errorf("%s, with byte %d of the journal turned: %+v", l.why, at, got)
				}
			}
			if got := mount(withLog(l.from, s[:at])); at > 0 && !got.same(corrupt) {
				t.Errorf("%s, with the journal cut at %d: %+v", l.why, at, got)
			}
		}
	}
	for why, x := range notRightTxns() {
		if len(x.Outs) > 0 && len(x.Outs) <= 20 {
			l := withLog(textsOfVol(impl.NewVol()), textOfTxn(x))
			wantMount(t, why, l, corrupt)
		}
	}
}

// TestMountOfOutsThatLeadToNoVolume has a right journal: with its Outs done ReadBlocks says false.
func TestMountOfOutsThatLeadToNoVolume(t *testing.T) {
	w := newBlockWords(t)
	for why, v := range w.plainVols(t) {
		l := textsOfVol(v)
		for at := range 17 {
			for _, text := range []string{"garbage", "i", "u", "\x00", l[at] + "\x00", "i\x01\x02\x01\x00\x01\x00\x01A\x01", strings.Repeat("\x00", 400)} {
				s := impl.ShowTxn(txnOf(6, write(at, text)))
				if s == "" {
					t.Fatal("not shown", at, text)
				}
				wantMount(t, why+", an Out that is none", withLog(l, s), corrupt)
			}
			if at <= len(v.Inodes) {
				wantMount(t, why+", a block goes", withLog(l, impl.ShowTxn(txnOf(6, write(at, "")))), corrupt)
				wantMount(t, why+", one that stays", withLog(l, impl.ShowTxn(txnOf(6, write(at, l[at])))), mounted{v, []impl.Write{write(at, l[at])}, 6, 0})
			}
		}
	}
	// All that the Outs lack is not there.
	for _, l := range w.leaps(t, 17) {
		for at := range l.txn.Outs {
			part := impl.Txn{Seq: 2, Outs: slices.Delete(slices.Clone(l.txn.Outs), at, at+1)}
			if len(part.Outs) > 0 {
				w.wantMountByWords(t, l.why+", an Out lacks", withLog(l.from, impl.ShowTxn(part)))
			}
		}
	}
}

func TestMountByHowManyTexts(t *testing.T) {
	w := newBlockWords(t)
	for _, l := range w.leaps(t, 17) {
		for _, all := range [][]string{withLog(l.from, ""), withLog(l.from, l.journal()), withLog(l.to, l.journal())} {
			for count := range 18 {
				wantMount(t, l.why+", texts lack", all[:count], corrupt)
			}
			for _, more := range [][]string{{""}, {l.journal()}, {"garbage"}, all} {
				wantMount(t, l.why+", more texts behind", slices.Concat(all, more), corrupt)
				wantMount(t, l.why+", more texts ahead", slices.Concat(more, all), corrupt)
			}
		}
	}
	for count := range 60 {
		wantMount(t, "empty texts", make([]string, count), corrupt)
	}
	wantMount(t, "nil", nil, corrupt)
	wantMount(t, "many texts", make([]string, 100000), corrupt)
}

// TestMountOfAnyBlocks is promise 9: a right volume, or MtCorrupt and all else zero.
func TestMountOfAnyBlocks(t *testing.T) {
	w := newBlockWords(t)
	s := steady{19}
	whole, none := 0, 0
	for _, l := range w.leaps(t, 17) {
		for range 150 {
			blocks := l.inPart(s.below(1 << len(l.txn.Outs)))[:17]
			x := impl.Txn{Seq: l.txn.Seq, Outs: slices.Clone(l.txn.Outs)}
			for range s.below(4) {
				blocks = s.changed(blocks)
			}
			if at := s.below(3 * len(x.Outs)); at < len(x.Outs) {
				x.Outs[at].Text = s.changed(filled(x.Outs[at].Text))[0]
			}
			journal := impl.ShowTxn(x)
			switch s.below(8) {
			case 0:
				journal = ""
			case 1:
				journal = s.changed(filled(journal))[0]
			}
			if w.wantMountByWords(t, "any blocks", withLog(blocks, journal)) {
				whole++
			} else {
				none++
			}
		}
	}
	if whole == 0 || none == 0 {
		t.Error("volumes and none:", whole, none)
	}
}

// TestMountOfVolumesChangedForLong logs each call, and loses some of its writes.
func TestMountOfVolumesChangedForLong(t *testing.T) {
	names := []string{"FILE", "file", "\xc3\x85", "a\xcc\x8a", "ss", "d", "D", "e", strings.Repeat("\xea\xb0\x81", 8)}
	for seed := range 4 {
		s := steady{uint64(900 + seed)}
		v := impl.NewVol()
		base := impl.VolBlocks(v)
		for seq := 1; seq <= 300; seq++ {
			id := func() int { return v.Inodes[s.below(len(v.Inodes))].Id }
			c := impl.Call{Kind: 1 + s.below(7), Dir: id(), Name: names[s.below(len(names))]}
			if c.Kind == impl.CaLink || c.Kind == impl.CaRename {
				c.To, c.As = id(), names[s.below(len(names))]
			}
			if c.Kind == impl.CaWrite {
				c.Data = mixedText(s.below(21))
			}
			v, _ = impl.VolDo(v, c)
			goal := impl.VolBlocks(v)
			outs := impl.Diff(base, goal)
			if len(outs) == 0 {
				continue
			}
			l := leap{"changed", base, goal, v, txnOf(seq, outs...)}
			if impl.ShowTxn(l.txn) != l.journal() {
				t.Fatal("shown otherwise", shownTxn(l.txn))
			}
			wantMount(t, "changed", l.inPart(s.below(1<<len(outs))), l.told())
			wantMount(t, "the one before", withLog(base, ""), mountedAlone(base))
			base = goal
			if t.Failed() {
				return
			}
		}
	}
}

// mountedAlone is what is told of the blocks of a volume without a journal.
func mountedAlone(l []string) mounted {
	v, _ := impl.ReadBlocks(l)
	return mounted{v: v}
}

// TestJournalsKeepNothing asks in between for other things, right and not right.
func TestJournalsKeepNothing(t *testing.T) {
	x := txnOf(300, write(0, "u\x03\x01"), write(16, ""))
	l := withLog(textsOfVol(impl.NewVol()), impl.ShowTxn(x))
	want := mountedAlone(withText(l[:17], 0, "u\x03\x01"))
	want.outs, want.seq = x.Outs, 300
	for range 3 {
		wantMount(t, "first", l, want)
		wantMount(t, "between", withText(l, 17, ""), mounted{v: impl.NewVol()})
		wantMount(t, "between", withText(l, 17, "garbage"), corrupt)
		wantMount(t, "between", nil, corrupt)
		wantShown(t, "between", impl.Txn{}, "")
		wantNoTxn(t, "between", "")
		wantShown(t, "again", x, textOfTxn(x))
		wantTxn(t, "again", textOfTxn(x), x, true)
	}
}
