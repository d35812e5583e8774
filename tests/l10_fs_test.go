package tests

import (
	"cmp"
	"maps"
	"math"
	"slices"
	"strconv"
	"strings"
	"testing"
	"unsafe"

	"loop.example/g00773/impl"
)

func sameFs(a, b impl.Fs) bool {
	numbers := func(f impl.Fs) [4]int { return [4]int{f.Seq, f.Step, f.Saved, f.Trying} }
	return a.Up == b.Up && numbers(a) == numbers(b) && sameVol(a.Mem, b.Mem) && sameVol(a.Goal, b.Goal) &&
		slices.Equal(a.Base, b.Base) && sameDev(a.Dev, b.Dev) && slices.Equal(a.Calls, b.Calls)
}

func cloneFs(f impl.Fs) impl.Fs {
	f.Mem, f.Goal, f.Base = cloneVol(f.Mem), cloneVol(f.Goal), slices.Clone(f.Base)
	f.Dev, f.Calls = cloneDev(f.Dev), slices.Clone(f.Calls)
	return f
}

// fsWords answers in the document's words, from what the tests know of volumes, blocks, devices and journals; numbers stand here as it has them.
type fsWords struct{ blockWords }

func newFsWords(t *testing.T) fsWords { return fsWords{newBlockWords(t)} }

func newFsByWords() impl.Fs {
	v := impl.Vol{Next: 2, Inodes: []impl.Inode{{Id: 1, Kind: 2, Links: 1}}}
	return impl.Fs{Up: true, Mem: v, Base: textsOfVol(v), Dev: impl.Dev{Blocks: withLog(textsOfVol(v), "")}}
}

func (w fsWords) fsOk(f impl.Fs) bool {
	if !devOkByWords(f.Dev) || len(f.Calls) > 120 || f.Step < 0 || f.Step > 5 || f.Seq < 0 || f.Seq > 1000000 {
		return false
	}
	for _, c := range f.Calls {
		if !callOkByWords(c) {
			return false
		}
	}
	for _, n := range []int{f.Saved, f.Trying} {
		if n < 0 || n > len(f.Calls) {
			return false
		}
	}
	if f.Up || f.Step == 5 {
		if _, blocks := w.read(f.Base); !blocks || !w.ok(f.Mem) {
			return false
		}
	}
	if f.Step >= 1 && f.Step <= 4 && (!f.Up || !w.ok(f.Goal)) {
		return false
	}
	if !f.Up && f.Step == 0 {
		return sameVol(f.Mem, impl.Vol{}) && sameVol(f.Goal, impl.Vol{}) && len(f.Base) == 0
	}
	return true
}

func (w fsWords) fold(l []impl.Call, n int) (impl.Vol, bool) {
	if n < 0 || n > len(l) || len(l) > 120 {
		return impl.Vol{}, false
	}
	v, all := newFsByWords().Mem, true
	for i := 0; i < n; i++ {
		after, told := w.do(v, l[i])
		if told.Code != 0 {
			all = false
		}
		v = after
	}
	return v, all
}

// act has a code of 0, 1 or 2; what f is then counts only where it is 0.
func (w fsWords) act(f impl.Fs, a impl.Act) (impl.Fs, impl.Result, int) {
	if !w.fsOk(f) {
		return impl.Fs{}, impl.Result{}, 1
	}
	g, told, code := cloneFs(f), impl.Result{}, 1
	switch a.Kind {
	case 1:
		told, code = w.actCall(&g, a.Call)
	case 2:
		code = w.actSync(&g)
	case 3:
		code = w.actStep(&g)
	case 4:
		code = w.actCrash(&g, a.N)
	case 5:
		code = w.actMount(&g)
	}
	if code != 0 {
		return cloneFs(f), impl.Result{}, code
	}
	return g, told, 0
}

func (w fsWords) actCall(f *impl.Fs, c impl.Call) (impl.Result, int) {
	if !f.Up {
		return impl.Result{}, 2
	}
	after, told := w.do(f.Mem, c)
	if told.Code == 0 && !slices.Equal(textsOfVol(after), textsOfVol(f.Mem)) {
		if len(f.Calls) == 120 {
			return impl.Result{}, 2
		}
		f.Calls = append(f.Calls, c)
	}
	f.Mem = after
	return told, 0
}

func (w fsWords) actSync(f *impl.Fs) int {
	if !f.Up || f.Step != 0 || f.Seq == 1000000 {
		return 2
	}
	f.Trying = len(f.Calls)
	if slices.Equal(textsOfVol(f.Mem), f.Base) {
		f.Saved = len(f.Calls)
	} else {
		f.Goal, f.Step = cloneVol(f.Mem), 1
	}
	return 0
}

func (w fsWords) actStep(f *impl.Fs) int {
	var outs []impl.Write
	if f.Step >= 1 && f.Step <= 4 {
		outs = diffByWords(f.Base, textsOfVol(f.Goal))
	}
	put := func(l []impl.Write, next int) int {
		d, ok := putByWords(f.Dev, l)
		if !ok {
			return 2
		}
		f.Dev, f.Step = d, next
		return 0
	}
	switch f.Step {
	case 0:
		return 2
	case 1:
		if f.Seq == 1000000 {
			return 2
		}
		f.Seq++
		return put([]impl.Write{write(17, showTxnByWords(txnOf(f.Seq, outs...)))}, 2)
	case 2:
		f.Dev, f.Step = flushByWords(f.Dev), 3
	case 3:
		return put(outs, 4)
	case 4:
		f.Dev, f.Base, f.Saved = flushByWords(f.Dev), textsOfVol(f.Goal), f.Trying
		f.Step, f.Goal = 0, impl.Vol{}
	case 5:
		f.Dev, f.Up, f.Step = flushByWords(f.Dev), true, 0
	}
	return 0
}

func (w fsWords) actCrash(f *impl.Fs, mask int) int {
	if !f.Up && f.Step == 0 {
		return 2
	}
	*f = impl.Fs{Seq: f.Seq, Dev: crashByWords(f.Dev, mask), Calls: f.Calls, Saved: f.Saved, Trying: f.Trying}
	return 0
}

func (w fsWords) actMount(f *impl.Fs) int {
	if f.Up || f.Step == 5 {
		return 2
	}
	m := w.mount(f.Dev.Blocks)
	d, ok := putByWords(f.Dev, m.outs)
	if m.code != 0 || !ok {
		return 2
	}
	f.Dev, f.Mem, f.Base, f.Seq, f.Step = d, m.v, textsOfVol(m.v), m.seq, 5
	count := f.Saved
	if v, _ := w.fold(f.Calls, f.Trying); sameVol(v, m.v) {
		count = f.Trying
	}
	f.Calls, f.Saved, f.Trying = f.Calls[:count], count, count
	return 0
}

func (w fsWords) isTrue(f impl.Fs) bool {
	if !w.fsOk(f) {
		return false
	}
	if f.Up || f.Step == 5 {
		if v, all := w.fold(f.Calls, len(f.Calls)); !all || !sameVol(v, f.Mem) {
			return false
		}
	}
	saved, _ := w.fold(f.Calls, f.Saved)
	trying, _ := w.fold(f.Calls, f.Trying)
	for _, d := range []impl.Dev{flushByWords(f.Dev), crashByWords(f.Dev, 0)} {
		if m := w.mount(d.Blocks); m.code != 0 || !sameVol(m.v, saved) && !sameVol(m.v, trying) {
			return false
		}
	}
	return true
}

// What is handed in and what is answered, as memory.

// roomyCalls has l with room behind it, and tells whether both are as they were.
func roomyCalls(l []impl.Call) ([]impl.Call, func() bool) {
	all := slices.Clone(l)
	for i := range 130 {
		all = append(all, impl.Call{Kind: -7 - i, Name: leftName})
	}
	before := slices.Clone(all)
	return all[:len(l)], func() bool { return slices.Equal(all, before) }
}

func roomyFs(f impl.Fs) (impl.Fs, func() bool) {
	before := f
	var asked [5]func() bool
	f.Mem, asked[0] = roomyVol(f.Mem)
	f.Goal, asked[1] = roomyVol(f.Goal)
	f.Base, asked[2] = roomyTexts(f.Base)
	f.Dev, asked[3] = roomyDev(f.Dev)
	f.Calls, asked[4] = roomyCalls(f.Calls)
	return f, func() bool {
		for _, left := range asked {
			if !left() {
				return false
			}
		}
		return sameFs(f, before)
	}
}

func spoilCalls(l []impl.Call) {
	for i := range l[:cap(l)] {
		l[:cap(l)][i] = impl.Call{Kind: -8, Name: "written over"}
	}
}

// spoilFs writes over all memory of a machine, the room behind its lists included.
func spoilFs(f impl.Fs) {
	spoil(f.Mem, -8)
	spoil(f.Goal, -8)
	spoilTexts(f.Base)
	spoilDev(f.Dev)
	spoilCalls(f.Calls)
}

// looseCalls has l with texts that are written over by what it tells.
func looseCalls(l []impl.Call) ([]impl.Call, func()) {
	l = slices.Clone(l)
	var all [][]byte
	for i := range l {
		for _, s := range []*string{&l[i].Name, &l[i].As, &l[i].Data} {
			text, bytes := loose(*s)
			*s = text
			all = append(all, bytes)
		}
	}
	return l, func() { overwrite(all) }
}

func looseActs(l []impl.Act) ([]impl.Act, func()) {
	var calls []impl.Call
	for _, a := range l {
		calls = append(calls, a.Call)
	}
	calls, writeOver := looseCalls(calls)
	l = slices.Clone(l)
	for i := range l {
		l[i].Call = calls[i]
	}
	return l, writeOver
}

func looseFs(f impl.Fs) (impl.Fs, func()) {
	var over [5]func()
	f.Mem, over[0] = looseVol(f.Mem)
	f.Goal, over[1] = looseVol(f.Goal)
	f.Base, over[2] = looseTexts(f.Base)
	f.Dev, over[3] = looseDev(f.Dev)
	f.Calls, over[4] = looseCalls(f.Calls)
	return f, func() {
		for _, writeOver := range over {
			writeOver()
		}
	}
}

// A span is the memory of a list, the room behind it included.
type span struct{ from, to uintptr }

func spanOf[T any](l []T) span {
	if cap(l) == 0 {
		return span{}
	}
	from := unsafe.SliceData(l)
	return span{uintptr(unsafe.Pointer(from)), uintptr(unsafe.Pointer(from)) + uintptr(cap(l))*unsafe.Sizeof(*from)}
}

func volSpans(v impl.Vol) []span {
	out := []span{spanOf(v.Inodes)}
	for _, n := range v.Inodes {
		out = append(out, spanOf(n.Ents))
	}
	return out
}

func fsSpans(f impl.Fs) []span {
	return slices.Concat(volSpans(f.Mem), volSpans(f.Goal), []span{spanOf(f.Base), spanOf(f.Dev.Blocks), spanOf(f.Dev.Pend), spanOf(f.Calls)})
}

func spansShare(l []span) bool {
	l = slices.DeleteFunc(slices.Clone(l), func(s span) bool { return s.from == s.to })
	slices.SortFunc(l, func(a, b span) int { return cmp.Compare(a.from, b.from) })
	for i := 1; i < len(l); i++ {
		if l[i].from < l[i-1].to {
			return true
		}
	}
	return false
}

func textsOfCalls(l []impl.Call) []string {
	var out []string
	for _, c := range l {
		out = append(out, c.Name, c.As, c.Data)
	}
	return out
}

func fsTexts(f impl.Fs) []string {
	return slices.Concat(mounted{v: f.Mem}.texts(), mounted{v: f.Goal}.texts(), f.Base, f.Dev.Blocks, textsOfWrites(f.Dev.Pend), textsOfCalls(f.Calls))
}

// What a test tells where it fails.

func shownCalls(l []impl.Call) string {
	if len(l) > 6 {
		return ".." + shownCalls(l[len(l)-4:]) + "(" + strconv.Itoa(len(l)) + ")"
	}
	var out []string
	for _, c := range l {
		out = append(out, strconv.Itoa(c.Kind)+" "+strconv.Itoa(c.Dir)+" "+shortened(c.Name)+" "+strconv.Itoa(c.To)+" "+shortened(c.As)+" "+shortened(c.Data))
	}
	return "[" + strings.Join(out, ", ") + "]"
}

// numbersOf has all that is not in a list.
func numbersOf(f impl.Fs) string {
	out := "down"
	if f.Up {
		out = "up"
	}
	out += " step " + strconv.Itoa(f.Step) + " seq " + strconv.Itoa(f.Seq)
	return out + " saved " + strconv.Itoa(f.Saved) + " trying " + strconv.Itoa(f.Trying) + " of " + strconv.Itoa(len(f.Calls))
}

func shownFs(f impl.Fs) string {
	return "{" + numbersOf(f) + "\n   Mem " + strconv.Quote(showVol(f.Mem)) + "\n   Goal " + strconv.Quote(showVol(f.Goal)) + "\n   Base " + shownDev(impl.Dev{Blocks: f.Base}) + "\n   Dev " + shownDev(f.Dev) + "\n   Calls " + shownCalls(f.Calls) + "}"
}

func shownAct(a impl.Act) string {
	return strconv.Itoa(a.Kind) + " " + strconv.Itoa(a.N) + " " + shownCalls([]impl.Call{a.Call})
}

// wantAct asks an answer of FsDo, that what was given is left, and that nothing is shared.
func wantAct(t *testing.T, why string, f impl.Fs, a impl.Act, want impl.Fs, wantTold impl.Result, wantCode int) {
	t.Helper()
	given, left := roomyFs(f)
	got, told, code := impl.FsDo(given, a)
	if code != wantCode || told != wantTold || !sameFs(got, want) {
		t.Errorf("FsDo(%s) (%s)\n of   %s\n is   %s, %+v, %d\n want %s, %+v, %d", shownAct(a), why, shownFs(f), shownFs(got), told, code, shownFs(want), wantTold, wantCode)
		return
	}
	again, _, _ := impl.FsDo(given, a)
	if spansShare(slices.Concat(fsSpans(given), fsSpans(got), fsSpans(again))) {
		t.Errorf("FsDo(%s) (%s) of %s: lists share memory", shownAct(a), why, shownFs(f))
	}
	if bytesShare(append(fsTexts(got), fsTexts(again)...)) {
		t.Errorf("FsDo(%s) (%s) of %s: texts of the answers share bytes", shownAct(a), why, shownFs(f))
	}
	spoilFs(got)
	if !left() || !sameFs(again, want) {
		t.Errorf("FsDo(%s) (%s) of %s: what it was given is changed, or an answer with an earlier one", shownAct(a), why, shownFs(f))
	}
	shown, overFs := looseFs(f)
	acts, overAct := looseActs([]impl.Act{a})
	got, told, _ = impl.FsDo(shown, acts[0])
	overFs()
	overAct()
	if told != wantTold || !sameFs(got, want) {
		t.Errorf("FsDo(%s) (%s) of %s: the answer shares bytes with what was given", shownAct(a), why, shownFs(f))
	}
}

// wantActByWords asks one act as the words have it, and that a right machine stays right; the answer is the words'.
func (w fsWords) wantActByWords(t *testing.T, why string, f impl.Fs, a impl.Act) (impl.Fs, impl.Result, int) {
	t.Helper()
	want, told, code := w.act(f, a)
	wantAct(t, why, f, a, want, told, code)
	if w.fsOk(f) {
		wantFsOk(t, why+", behind "+shownAct(a), want, true)
	}
	return want, told, code
}

func wantFsOk(t *testing.T, why string, f impl.Fs, want bool) {
	t.Helper()
	given, left := roomyFs(f)
	if got := impl.FsOk(given); got != want {
		t.Errorf("FsOk of %s (%s) = %v", shownFs(f), why, got)
	}
	if !left() {
		t.Errorf("FsOk of %s (%s): what it was given is changed", shownFs(f), why)
	}
}

func wantTrue(t *testing.T, why string, f impl.Fs, want bool) {
	t.Helper()
	given, left := roomyFs(f)
	if got := impl.True(given); got != want {
		t.Errorf("True of %s (%s) = %v", shownFs(f), why, got)
	}
	if !left() {
		t.Errorf("True of %s (%s): what it was given is changed", shownFs(f), why)
	}
}

// wantFoldOf asks an answer of FoldCalls, that what was given is left, and that nothing is shared.
func wantFoldOf(t *testing.T, why string, l []impl.Call, n int, want impl.Vol, wantOk bool) {
	t.Helper()
	given, left := roomyCalls(l)
	got, ok := impl.FoldCalls(given, n)
	if ok != wantOk || !sameVol(got, want) {
		t.Errorf("FoldCalls of %s and %d (%s)\n is   %s, %v\n want %s, %v", shownCalls(l), n, why, showVol(got), ok, showVol(want), wantOk)
		return
	}
	again, _ := impl.FoldCalls(given, n)
	if spansShare(append(volSpans(got), volSpans(again)...)) || bytesShare(append(mounted{v: got}.texts(), mounted{v: again}.texts()...)) {
		t.Errorf("FoldCalls of %s and %d (%s): answers share memory", shownCalls(l), n, why)
	}
	spoil(got, -9)
	if !left() || !sameVol(again, want) {
		t.Errorf("FoldCalls of %s and %d (%s): what it was given is changed, or an answer with an earlier one", shownCalls(l), n, why)
	}
	shown, writeOver := looseCalls(l)
	got, _ = impl.FoldCalls(shown, n)
	writeOver()
	if !sameVol(got, want) {
		t.Errorf("FoldCalls of %s and %d (%s): the answer shares bytes with what was given", shownCalls(l), n, why)
	}
}

// wantPlay asks an answer of Play, that what was given is left, and that nothing is shared.
func wantPlay(t *testing.T, why string, l []impl.Act, want impl.Fs, wantCodes []int) {
	t.Helper()
	all := append(slices.Clone(l), make([]impl.Act, 130)...)
	before := slices.Clone(all)
	got, codes := impl.Play(all[:len(l)])
	if !sameFs(got, want) || !slices.Equal(codes, wantCodes) {
		t.Errorf("Play (%s)\n is   %s, %v\n want %s, %v", why, shownFs(got), codes, shownFs(want), wantCodes)
		return
	}
	again, codesAgain := impl.Play(all[:len(l)])
	if spansShare(slices.Concat(fsSpans(got), fsSpans(again), []span{spanOf(all), spanOf(codes), spanOf(codesAgain)})) || bytesShare(append(fsTexts(got), fsTexts(again)...)) {
		t.Errorf("Play (%s): memory is shared", why)
	}
	spoilFs(got)
	if !slices.Equal(all, before) || !sameFs(again, want) {
		t.Errorf("Play (%s): what it was given is changed, or an answer with an earlier one", why)
	}
	shown, writeOver := looseActs(l)
	got, _ = impl.Play(shown)
	writeOver()
	if !sameFs(got, want) {
		t.Errorf("Play (%s): the answer shares bytes with what was given", why)
	}
}

// Machines and acts.

func callAct(c impl.Call) impl.Act { return impl.Act{Kind: impl.AcCall, Call: c} }

func crashAct(mask int) impl.Act { return impl.Act{Kind: impl.AcCrash, N: mask} }

var (
	syncAct  = impl.Act{Kind: impl.AcSync}
	stepAct  = impl.Act{Kind: impl.AcStep}
	mountAct = impl.Act{Kind: impl.AcMount}
)

func times(count int, a impl.Act) []impl.Act { return slices.Repeat([]impl.Act{a}, count) }

func callActs(l ...impl.Call) []impl.Act {
	var out []impl.Act
	for _, c := range l {
		out = append(out, callAct(c))
	}
	return out
}

// behind is the machine behind the acts, by the words; each of them must be one that can be.
func (w fsWords) behind(f impl.Fs, acts ...impl.Act) impl.Fs {
	for _, a := range acts {
		after, _, code := w.act(f, a)
		if code != 0 {
			panic("an act that cannot be: " + shownAct(a) + " of " + shownFs(f))
		}
		f = after
	}
	return f
}

// firstCalls are those that a first sync has, laterCalls those that come while it is on its way.
func firstCalls() []impl.Call {
	return []impl.Call{callOf(impl.CaCreate, 1, "A"), callOf(impl.CaMkdir, 1, "d"), writeOf(1, "a", "hi")}
}

func laterCalls() []impl.Call {
	return []impl.Call{linkOf(1, "A", 3, "\xc3\x85"), writeOf(3, "a\xcc\x8a", "later"), callOf(impl.CaCreate, 3, "File"), renameOf(1, "a", 1, "a2")}
}

// syncedFs has first calls that are saved, and others that are not.
func (w fsWords) syncedFs() impl.Fs {
	acts := append(callActs(firstCalls()...), syncAct)
	acts = append(acts, times(4, stepAct)...)
	return w.behind(newFsByWords(), append(acts, callActs(laterCalls()...)...)...)
}

// manyCalls change something each: a file, and so many writes less one.
func manyCalls(count int) []impl.Call {
	out := []impl.Call{callOf(impl.CaCreate, 1, "f")}
	for i := 1; i < count; i++ {
		out = append(out, writeOf(1, "f", strconv.Itoa(i)))
	}
	return out[:count]
}

// coursesOf has the machines that come about by acts, at each step of a sync and of a mount.
func (w fsWords) coursesOf() map[string]impl.Fs {
	first := callActs(firstCalls()...)
	called := w.behind(newFsByWords(), first...)
	synced := w.syncedFs()
	out := map[string]impl.Fs{"new": newFsByWords(), "called": called, "synced and called": synced}
	for step, why := range []string{"to log", "logged", "at home", "done", "synced"} {
		out[why] = w.behind(called, append([]impl.Act{syncAct}, times(step, stepAct)...)...)
		out[why+" again"] = w.behind(synced, append([]impl.Act{syncAct}, times(step, stepAct)...)...)
	}
	for why, f := range maps.Clone(out) {
		for _, mask := range []int{0, 1, 1<<40 - 1} {
			down := w.behind(f, crashAct(mask))
			out[why+", down by "+strconv.Itoa(mask)] = down
			out[why+", mounting by "+strconv.Itoa(mask)] = w.behind(down, mountAct)
			out[why+", mounted by "+strconv.Itoa(mask)] = w.behind(down, mountAct, stepAct)
		}
	}
	return out
}

// withFs is f with something else.
func withFs(f impl.Fs, change func(f *impl.Fs)) impl.Fs {
	f = cloneFs(f)
	change(&f)
	return f
}

// rareFs has right machines that do not come about by acts, as the words let them be.
func (w fsWords) rareFs(t *testing.T) map[string]impl.Fs {
	courses := w.coursesOf()
	out := map[string]impl.Fs{}
	with := func(why, of string, change func(f *impl.Fs)) {
		f, there := courses[of]
		if out[why] = withFs(f, change); !there || !w.fsOk(out[why]) {
			t.Errorf("a machine that is not right among the others: %s", why)
		}
	}
	mess := impl.Vol{Next: -3, Inodes: []impl.Inode{{Id: 9, Data: strings.Repeat("d", 50), Ents: []impl.Ent{{Hash: 70, Name: "/"}, {Hash: 3, Name: "x"}}}, {Id: 9}, {Id: 2, Ents: []impl.Ent{{Name: "y"}}}}}
	for _, of := range []string{"new", "synced and called", "logged, mounting by 1", "synced again, mounting by 0"} {
		with(of+", with a Goal that is none", of, func(f *impl.Fs) { f.Goal = cloneVol(mess) })
		with(of+", Up at StMount", of, func(f *impl.Fs) { f.Up, f.Step = true, 5 })
	}
	for _, of := range []string{"new", "to log", "logged", "at home", "done", "logged, down by 1", "logged, mounting by 1", "synced again, down by 0"} {
		for _, count := range []int{23, 37, 38, 39, 40} {
			with(of+", with "+strconv.Itoa(count)+" writes under way", of, func(f *impl.Fs) { f.Dev.Pend = numberedWrites("mess ", count, 17) })
		}
		with(of+", with writes that spoil the volume", of, func(f *impl.Fs) { f.Dev.Pend = []impl.Write{write(0, "mess")} })
		with(of+", with writes that spoil the journal", of, func(f *impl.Fs) { f.Dev.Pend = []impl.Write{write(17, "mess")} })
		with(of+", with blocks without bytes", of, func(f *impl.Fs) { f.Dev.Blocks = make([]string, 18) })
		with(of+", with a journal that is none", of, func(f *impl.Fs) { f.Dev.Blocks[17] = "mess" })
		with(of+", with a block that is none", of, func(f *impl.Fs) { f.Dev.Blocks[9] = "mess" })
		with(of+", with the greatest device", of, func(f *impl.Fs) { f.Dev = greatestDev() })
		for _, seq := range []int{0, 127, 128, 999998, 999999, 1000000} {
			with(of+", Seq "+strconv.Itoa(seq), of, func(f *impl.Fs) { f.Seq = seq })
		}
		with(of+", with a call that is refused", of, func(f *impl.Fs) { f.Calls = append(f.Calls, callOf(impl.CaUnlink, 1, "none")) })
		with(of+", with a call that changes nothing", of, func(f *impl.Fs) { f.Calls = append(f.Calls, callOf(impl.CaLook, 1, "a")) })
		with(of+", with MaxCalls", of, func(f *impl.Fs) { f.Calls = manyCalls(120) })
		with(of+", without calls", of, func(f *impl.Fs) { f.Calls, f.Saved, f.Trying = nil, 0, 0 })
		with(of+", Saved and Trying changed", of, func(f *impl.Fs) { f.Saved, f.Trying = f.Trying, f.Saved })
		with(of+", all saved", of, func(f *impl.Fs) { f.Saved, f.Trying = len(f.Calls), len(f.Calls) })
	}
	for _, of := range []string{"to log", "logged", "at home", "done"} {
		for why, v := range map[string]impl.Vol{"NewVol": impl.NewVol(), "another one": twoNames(), "the greatest": w.greatestVol()} {
			with(of+", Goal is "+why, of, func(f *impl.Fs) { f.Goal = v })
			with(of+", Mem is "+why, of, func(f *impl.Fs) { f.Mem = v })
			with(of+", Base is "+why, of, func(f *impl.Fs) { f.Base = textsOfVol(v) })
		}
	}
	return out
}

func (w fsWords) rightFs(t *testing.T) map[string]impl.Fs {
	out := w.coursesOf()
	maps.Copy(out, w.rareFs(t))
	return out
}

// notRightFs has machines with one thing wrong, for each kind of machine.
func (w fsWords) notRightFs(t *testing.T) map[string]impl.Fs {
	courses := w.coursesOf()
	out := map[string]impl.Fs{"the zero one": {}}
	for _, of := range []string{"new", "synced and called", "to log", "logged", "at home", "done", "logged, mounting by 1", "logged, down by 1"} {
		with := func(why string, change func(f *impl.Fs)) {
			f := withFs(courses[of], change)
			if out[of+", "+why] = f; w.fsOk(f) {
				t.Errorf("a right machine among the others: %s", of+", "+why)
			}
		}
		notRightNumbers(with)
		notRightCalls(with)
		for why, d := range notRightDevs() {
			with("Dev: "+why, func(f *impl.Fs) { f.Dev = cloneDev(d) })
		}
		f := courses[of]
		if f.Up || f.Step == 5 {
			w.notRightMem(t, with)
			for _, step := range []int{1, 2, 3, 4} {
				with("down at Step "+strconv.Itoa(step), func(f *impl.Fs) { f.Up, f.Step, f.Goal = false, step, impl.NewVol() })
			}
			with("down at StIdle", func(f *impl.Fs) { f.Up, f.Step = false, 0 })
		}
		if f.Step >= 1 && f.Step <= 4 {
			w.notRightGoal(t, with)
		}
		if !f.Up && f.Step == 0 {
			notRightDown(with)
		}
	}
	return out
}

func notRightNumbers(with func(string, func(*impl.Fs))) {
	for _, n := range []int{-1, math.MinInt, math.MaxInt} {
		with("Saved "+strconv.Itoa(n), func(f *impl.Fs) { f.Saved = n })
		with("Trying "+strconv.Itoa(n), func(f *impl.Fs) { f.Trying = n })
		with("Step "+strconv.Itoa(n), func(f *impl.Fs) { f.Step = n })
		with("Seq "+strconv.Itoa(n), func(f *impl.Fs) { f.Seq = n })
	}
	with("Saved above all Calls", func(f *impl.Fs) { f.Saved = len(f.Calls) + 1 })
	with("Trying above all Calls", func(f *impl.Fs) { f.Trying = len(f.Calls) + 1 })
	with("Step 6", func(f *impl.Fs) { f.Step = 6 })
	with("Step 7", func(f *impl.Fs) { f.Step = 7 })
	with("Seq above MaxSeq", func(f *impl.Fs) { f.Seq = 1000001 })
}

func notRightCalls(with func(string, func(*impl.Fs))) {
	with("121 Calls", func(f *impl.Fs) { f.Calls = manyCalls(121) })
	with("many Calls", func(f *impl.Fs) { f.Calls = make([]impl.Call, 100000) })
	for why, c := range map[string]impl.Call{
		"the zero one": {},
		"Kind 9":       callOf(9, 1, "a"),
		"Kind -1":      callOf(-1, 1, "a"),
		"Dir -1":       callOf(impl.CaCreate, -1, "a"),
		"Dir 100001":   callOf(impl.CaCreate, 100001, "a"),
		"a long Name":  callOf(impl.CaCreate, 1, strings.Repeat("n", 25)),
		"a To too":     {Kind: impl.CaCreate, Dir: 1, Name: "a", To: 1},
		"long Data":    writeOf(1, "a", strings.Repeat("d", 21)),
		"To 100001":    linkOf(1, "a", 100001, "b"),
	} {
		with("the last call: "+why, func(f *impl.Fs) { f.Calls = append(f.Calls, c) })
		with("the first call: "+why, func(f *impl.Fs) { f.Calls = append([]impl.Call{c}, f.Calls...) })
		with("the last of 120 calls: "+why, func(f *impl.Fs) { f.Calls = append(manyCalls(119), c) })
	}
}

func (w fsWords) notRightMem(t *testing.T, with func(string, func(*impl.Fs))) {
	for why, v := range notRightVols(t, w.volWords) {
		with("Mem: "+why, func(f *impl.Fs) { f.Mem = cloneVol(v) })
	}
	for why, l := range map[string][]string{
		"nothing":             nil,
		"17 empty texts":      make([]string, 17),
		"16 texts":            textsOfVol(impl.NewVol())[:16],
		"18 texts":            withLog(textsOfVol(impl.NewVol()), ""),
		"one text that is no": withText(textsOfVol(impl.NewVol()), 16, "mess"),
		"another count":       filled("u\x02\x02", "i\x01\x02\x01\x00\x00"),
		"a long text":         withText(textsOfVol(impl.NewVol()), 16, mixedText(4001)),
	} {
		with("Base: "+why, func(f *impl.Fs) { f.Base = slices.Clone(l) })
	}
}

func (w fsWords) notRightGoal(t *testing.T, with func(string, func(*impl.Fs))) {
	for why, v := range notRightVols(t, w.volWords) {
		with("Goal: "+why, func(f *impl.Fs) { f.Goal = cloneVol(v) })
	}
	with("not Up", func(f *impl.Fs) { f.Up = false })
}

func notRightDown(with func(string, func(*impl.Fs))) {
	for why, v := range map[string]impl.Vol{"NewVol": impl.NewVol(), "Next 2": {Next: 2}, "Next -1": {Next: -1}, "one inode": {Inodes: make([]impl.Inode, 1)}, "another one": twoNames()} {
		with("Mem is "+why, func(f *impl.Fs) { f.Mem = cloneVol(v) })
		with("Goal is "+why, func(f *impl.Fs) { f.Goal = cloneVol(v) })
	}
	with("Base is one empty text", func(f *impl.Fs) { f.Base = []string{""} })
	with("Base is 17 empty texts", func(f *impl.Fs) { f.Base = make([]string, 17) })
	with("Base is of NewVol", func(f *impl.Fs) { f.Base = textsOfVol(impl.NewVol()) })
	with("it is Up", func(f *impl.Fs) { f.Up = true })
	for step := 1; step <= 5; step++ {
		with("Step "+strconv.Itoa(step), func(f *impl.Fs) { f.Step = step })
	}
}

func TestMachineConstants(t *testing.T) {
	if impl.MaxActs != 120 || impl.MaxCalls != 120 {
		t.Error(impl.MaxActs, impl.MaxCalls)
	}
	for i, n := range []int{impl.AcCall, impl.AcSync, impl.AcStep, impl.AcCrash, impl.AcMount} {
		if n != i+1 {
			t.Errorf("act %d is %d", i+1, n)
		}
	}
	for i, n := range []int{impl.StIdle, impl.StLog, impl.StLogged, impl.StHome, impl.StDone, impl.StMount} {
		if n != i {
			t.Errorf("step %d is %d", i, n)
		}
	}
}

func TestNewFs(t *testing.T) {
	f := impl.NewFs()
	if !sameFs(f, newFsByWords()) {
		t.Fatal(shownFs(f))
	}
	blocks := filled("u\x02\x01", "i\x01\x02\x01\x00\x00")
	if got := numbersOf(f); got != "up step 0 seq 0 saved 0 trying 0 of 0" || !slices.Equal(f.Base, blocks) || !slices.Equal(f.Dev.Blocks, withLog(blocks, "")) || len(f.Dev.Pend) != 0 {
		t.Error(shownFs(f))
	}
	again := impl.NewFs()
	if spansShare(append(fsSpans(f), fsSpans(again)...)) || bytesShare(append(fsTexts(f), fsTexts(again)...)) {
		t.Error("new machines share memory")
	}
	spoilFs(f)
	if !sameFs(again, newFsByWords()) || !sameFs(impl.NewFs(), newFsByWords()) {
		t.Error("a new machine is changed with an earlier one")
	}
	wantFsOk(t, "new", again, true)
	wantTrue(t, "new", again, true)
}

func TestFsOkOfRightMachines(t *testing.T) {
	w := newFsWords(t)
	for why, f := range w.rightFs(t) {
		wantFsOk(t, why, f, true)
	}
	// An empty list is as good as nil.
	f := w.coursesOf()["logged, down by 1"]
	f.Mem.Inodes, f.Goal.Inodes, f.Base = []impl.Inode{}, []impl.Inode{}, []string{}
	wantFsOk(t, "down, with lists that are empty", f, true)
}

func TestMachinesThatAreNotRight(t *testing.T) {
	w := newFsWords(t)
	acts := []impl.Act{{}, callAct(callOf(impl.CaCreate, 1, "new")), callAct(impl.Call{}), syncAct, stepAct, crashAct(0), crashAct(-1), mountAct, {Kind: 6}, {Kind: -1}}
	all := w.notRightFs(t)
	for i, why := range slices.Sorted(maps.Keys(all)) {
		wantFsOk(t, why, all[why], false)
		wantTrue(t, why, all[why], false)
		for _, a := range acts {
			if got, told, code := impl.FsDo(all[why], a); code != 1 || told != (impl.Result{}) || !sameFs(got, impl.Fs{}) {
				t.Errorf("FsDo(%s) of a machine that is not right (%s) is %s, %+v, %d", shownAct(a), why, shownFs(got), told, code)
			}
		}
		wantAct(t, why, all[why], acts[i%len(acts)], impl.Fs{}, impl.Result{}, 1)
	}
}

func TestFsDoOfAKindThatIsNone(t *testing.T) {
	w := newFsWords(t)
	for why, f := range w.rightFs(t) {
		for _, kind := range []int{math.MinInt, -1, 0, 6, 7, 1<<32 + 1, math.MaxInt} {
			a := impl.Act{Kind: kind, N: 1, Call: callOf(impl.CaCreate, 1, "new")}
			if got, told, code := impl.FsDo(f, a); code != 1 || told != (impl.Result{}) || !sameFs(got, f) {
				t.Errorf("FsDo(%s) (%s) is %s, %+v, %d", shownAct(a), why, shownFs(got), told, code)
			}
		}
		wantAct(t, why, f, impl.Act{Kind: 6, Call: callOf(impl.CaCreate, 1, "new")}, f, impl.Result{}, 1)
	}
}

// TestEachActOfEachMachine asks each act, refused or not, as the words have it.
func TestEachActOfEachMachine(t *testing.T) {
	w := newFsWords(t)
	var acts []impl.Act
	for _, c := range []impl.Call{
		callOf(impl.CaCreate, 1, "new"), callOf(impl.CaMkdir, 1, "A"), callOf(impl.CaUnlink, 1, "a"), callOf(impl.CaRmdir, 1, "D"), linkOf(1, "f", 1, "g"),
		renameOf(1, "a", 1, "\xc3\x85"), writeOf(1, "a", "new"), writeOf(1, "f", "119"), callOf(impl.CaLook, 1, "A"), callOf(impl.CaLook, 9, "none"), {}, callOf(9, 1, "a"), writeOf(1, "a", strings.Repeat("d", 21)),
	} {
		acts = append(acts, callAct(c))
	}
	for _, mask := range []int{math.MinInt, -1, 0, 1, 2, 5, 6, 1<<40 - 1, 1 << 40, math.MaxInt} {
		acts = append(acts, crashAct(mask))
	}
	// What an act does not name is not looked at.
	acts = append(acts, syncAct, stepAct, mountAct, impl.Act{Kind: impl.AcSync, N: -7, Call: callOf(9, 9, "x")}, impl.Act{Kind: impl.AcStep, N: math.MaxInt, Call: callOf(9, 9, "x")}, impl.Act{Kind: impl.AcMount, N: 3, Call: callOf(9, 9, "x")})
	codes := map[[3]int]int{}
	for why, f := range w.rightFs(t) {
		for _, a := range acts {
			_, _, code := w.wantActByWords(t, why, f, a)
			codes[[3]int{f.Step, a.Kind, code}]++
			if t.Failed() {
				return
			}
		}
	}
	// Each code that an act can have at a step was there.
	can := map[int][][]int{
		impl.AcCall:  {{0, 2}, {0, 2}, {0, 2}, {0, 2}, {0, 2}, {0, 2}},
		impl.AcSync:  {{0, 2}, {2}, {2}, {2}, {2}, {2}},
		impl.AcStep:  {{2}, {0, 2}, {0}, {0, 2}, {0}, {0}},
		impl.AcCrash: {{0, 2}, {0}, {0}, {0}, {0}, {0}},
		impl.AcMount: {{0, 2}, {2}, {2}, {2}, {2}, {2}},
	}
	for kind, steps := range can {
		for step, want := range steps {
			for code := range 3 {
				if there := codes[[3]int{step, kind, code}] > 0; there != slices.Contains(want, code) {
					t.Errorf("act %d at step %d has code %d: %v", kind, step, code, there)
				}
			}
		}
	}
}

// A course is a machine that goes on act by act, each asked by hand and by the words.
type course struct {
	t *testing.T
	w fsWords
	f impl.Fs
}

func newCourse(t *testing.T) *course { return &course{t, newFsWords(t), newFsByWords()} }

// does asks an act that can be.
func (c *course) does(a impl.Act) impl.Result {
	c.t.Helper()
	after, told, code := c.w.wantActByWords(c.t, "course", c.f, a)
	if code != 0 {
		c.t.Errorf("%s cannot be: %d of %s", shownAct(a), code, shownFs(c.f))
	}
	c.f = after
	return told
}

// cannot asks an act that leaves the machine as it is.
func (c *course) cannot(acts ...impl.Act) {
	c.t.Helper()
	for _, a := range acts {
		wantAct(c.t, "it cannot be", c.f, a, c.f, impl.Result{}, 2)
	}
}

func (c *course) tells(call impl.Call, want impl.Result) {
	c.t.Helper()
	if got := c.does(callAct(call)); got != want {
		c.t.Errorf("%s tells %+v, want %+v", shownCalls([]impl.Call{call}), got, want)
	}
}

// is asks the numbers and what stands in Mem, by hand, and that the machine is true.
func (c *course) is(numbers, mem string) {
	c.t.Helper()
	if numbersOf(c.f) != numbers || showVol(c.f.Mem) != mem {
		c.t.Errorf("it is %s, want %s, %s", shownFs(c.f), numbers, mem)
	}
	wantTrue(c.t, numbers, c.f, true)
}

func (c *course) pends(l ...impl.Write) {
	c.t.Helper()
	if !slices.Equal(c.f.Dev.Pend, l) {
		c.t.Errorf("under way are %s, want %s", shownTxn(txnOf(0, c.f.Dev.Pend...)), shownTxn(txnOf(0, l...)))
	}
}

func (c *course) hasBlocks(l []string) {
	c.t.Helper()
	if !slices.Equal(c.f.Dev.Blocks, l) {
		c.t.Errorf("the blocks are %q, want %q", c.f.Dev.Blocks, l)
	}
}

func (c *course) hasBase(l []string) {
	c.t.Helper()
	if !slices.Equal(c.f.Base, l) {
		c.t.Errorf("Base are %q, want %q", c.f.Base, l)
	}
}

func (c *course) hasGoal(want string) {
	c.t.Helper()
	if got := showVol(c.f.Goal); got != want {
		c.t.Errorf("Goal is %s, want %s", got, want)
	}
}

const noVol = "0"

// A file A in an empty volume, by hand: its blocks, what leads to them, and the journal of that.

func emptyBlocks() []string { return filled("u\x02\x01", "i\x01\x02\x01\x00\x00") }

func fileBlocks() []string {
	return filled("u\x03\x02", "i\x01\x02\x01\x00\x01\x00\x01A\x02", "i\x02\x01\x01\x00\x00")
}

func fileWrites() []impl.Write {
	return []impl.Write{write(0, "u\x03\x02"), write(1, "i\x01\x02\x01\x00\x01\x00\x01A\x02"), write(2, "i\x02\x01\x01\x00\x00")}
}

func fileJournal() string {
	return summed("t\x01\x03\x00\x03u\x03\x02\x01\x0ai\x01\x02\x01\x00\x01\x00\x01A\x02\x02\x06i\x02\x01\x01\x00\x00")
}

// TestASyncByHand asks each step, with what it puts on the device, and calls between the steps.
func TestASyncByHand(t *testing.T) {
	c := newCourse(t)
	c.cannot(stepAct, mountAct)
	c.tells(callOf(impl.CaCreate, 1, "A"), impl.Result{Id: 2})
	c.is("up step 0 seq 0 saved 0 trying 0 of 1", "3; 1: A=2; 2 x1 ")
	c.cannot(stepAct, mountAct)
	c.does(syncAct)
	c.is("up step 1 seq 0 saved 0 trying 1 of 1", "3; 1: A=2; 2 x1 ")
	c.hasGoal("3; 1: A=2; 2 x1 ")
	c.hasBase(emptyBlocks())
	c.pends()
	c.cannot(syncAct, mountAct)
	c.tells(writeOf(1, "a", "hi"), impl.Result{})
	c.is("up step 1 seq 0 saved 0 trying 1 of 2", "3; 1: A=2; 2 x1 hi")
	c.hasGoal("3; 1: A=2; 2 x1 ")
	c.does(stepAct)
	c.is("up step 2 seq 1 saved 0 trying 1 of 2", "3; 1: A=2; 2 x1 hi")
	c.pends(write(17, fileJournal()))
	c.hasBlocks(withLog(emptyBlocks(), ""))
	c.cannot(syncAct, mountAct)
	c.tells(callOf(impl.CaMkdir, 1, "d"), impl.Result{Id: 3})
	c.does(stepAct)
	c.is("up step 3 seq 1 saved 0 trying 1 of 3", "4; 1: A=2 d=3; 2 x1 hi; 3:")
	c.pends()
	c.hasBlocks(withLog(emptyBlocks(), fileJournal()))
	c.cannot(syncAct, mountAct)
	c.tells(callOf(impl.CaRmdir, 1, "D"), impl.Result{})
	c.does(stepAct)
	c.is("up step 4 seq 1 saved 0 trying 1 of 4", "4; 1: A=2; 2 x1 hi")
	c.pends(fileWrites()...)
	c.hasBlocks(withLog(emptyBlocks(), fileJournal()))
	c.hasBase(emptyBlocks())
	c.hasGoal("3; 1: A=2; 2 x1 ")
	c.cannot(syncAct, mountAct)
	c.tells(callOf(impl.CaLook, 1, "a"), impl.Result{Id: 2, Name: "A", Data: "hi"})
	c.does(stepAct)
	c.is("up step 0 seq 1 saved 1 trying 1 of 4", "4; 1: A=2; 2 x1 hi")
	c.pends()
	c.hasBlocks(withLog(fileBlocks(), fileJournal()))
	c.hasBase(fileBlocks())
	c.hasGoal(noVol)
	c.cannot(stepAct, mountAct)
	secondSyncByHand(c)
}

// secondSyncByHand has what came while the first one was on its way: the journal tells only what is unlike.
func secondSyncByHand(c *course) {
	c.t.Helper()
	c.does(syncAct)
	c.is("up step 1 seq 1 saved 1 trying 4 of 4", "4; 1: A=2; 2 x1 hi")
	c.does(stepAct)
	second := summed("t\x02\x02\x00\x03u\x04\x02\x02\x08i\x02\x01\x01\x02hi\x00")
	c.pends(write(17, second))
	c.does(stepAct)
	c.does(stepAct)
	c.pends(write(0, "u\x04\x02"), write(2, "i\x02\x01\x01\x02hi\x00"))
	c.does(stepAct)
	c.is("up step 0 seq 2 saved 4 trying 4 of 4", "4; 1: A=2; 2 x1 hi")
	c.hasBlocks(withLog(withText(withText(fileBlocks(), 0, "u\x04\x02"), 2, "i\x02\x01\x01\x02hi\x00"), second))
}

func TestCallsOfAMachine(t *testing.T) {
	c := newCourse(t)
	c.tells(callOf(impl.CaCreate, 1, "A"), impl.Result{Id: 2})
	// What is refused changes nothing, and is told.
	for _, x := range []struct {
		call impl.Call
		code int
	}{
		{callOf(impl.CaCreate, 1, "a"), impl.VoExist}, {callOf(impl.CaUnlink, 1, "b"), impl.VoNoEnt}, {callOf(impl.CaCreate, 2, "b"), impl.VoNotDir},
		{callOf(impl.CaMkdir, 7, "b"), impl.VoNoEnt}, {callOf(impl.CaMkdir, 1, "."), impl.VoBad}, {impl.Call{}, impl.VoBad}, {callOf(9, 1, "A"), impl.VoBad},
		{callOf(impl.CaRmdir, 1, "A"), impl.VoNotDir}, {linkOf(1, "A", 1, "a"), impl.VoExist},
	} {
		c.tells(x.call, impl.Result{Code: x.code})
		c.is("up step 0 seq 0 saved 0 trying 0 of 1", "3; 1: A=2; 2 x1 ")
	}
	// What is VoOk and leaves all as it was does not come behind Calls.
	c.tells(callOf(impl.CaLook, 1, "a"), impl.Result{Id: 2, Name: "A"})
	c.tells(writeOf(1, "a", ""), impl.Result{})
	c.tells(renameOf(1, "a", 1, "A"), impl.Result{})
	c.is("up step 0 seq 0 saved 0 trying 0 of 1", "3; 1: A=2; 2 x1 ")
	c.tells(linkOf(1, "a", 1, "b"), impl.Result{})
	c.tells(renameOf(1, "a", 1, "B"), impl.Result{})
	c.is("up step 0 seq 0 saved 0 trying 0 of 2", "3; 1: A=2 b=2; 2 x2 ")
	// Another spelling is a change, and so is what leads back to where it was.
	c.tells(renameOf(1, "a", 1, "a"), impl.Result{})
	c.tells(writeOf(1, "B", "x"), impl.Result{})
	c.tells(writeOf(1, "b", ""), impl.Result{})
	c.tells(callOf(impl.CaMkdir, 1, "d"), impl.Result{Id: 3})
	c.tells(callOf(impl.CaRmdir, 1, "d"), impl.Result{})
	c.is("up step 0 seq 0 saved 0 trying 0 of 7", "4; 1: a=2 b=2; 2 x2 ")
	want := []impl.Call{callOf(impl.CaCreate, 1, "A"), linkOf(1, "a", 1, "b"), renameOf(1, "a", 1, "a"), writeOf(1, "B", "x"), writeOf(1, "b", ""), callOf(impl.CaMkdir, 1, "d"), callOf(impl.CaRmdir, 1, "d")}
	if !slices.Equal(c.f.Calls, want) {
		t.Errorf("Calls are %v", c.f.Calls)
	}
}

func TestTheCallBehindMaxCalls(t *testing.T) {
	c := newCourse(t)
	for i, call := range manyCalls(120) {
		want := impl.Result{}
		if i == 0 {
			want.Id = 2
		}
		c.tells(call, want)
	}
	c.is("up step 0 seq 0 saved 0 trying 0 of 120", "3; 1: f=2; 2 x1 119")
	full := func() {
		t.Helper()
		c.cannot(callActs(writeOf(1, "f", "120"), callOf(impl.CaCreate, 1, "g"), callOf(impl.CaUnlink, 1, "f"), renameOf(1, "f", 1, "F"))...)
		c.tells(writeOf(1, "f", "119"), impl.Result{})
		c.tells(callOf(impl.CaLook, 1, "F"), impl.Result{Id: 2, Name: "f", Data: "119"})
		c.tells(callOf(impl.CaCreate, 1, "F"), impl.Result{Code: impl.VoExist})
		c.tells(impl.Call{}, impl.Result{Code: impl.VoBad})
	}
	full()
	c.does(syncAct)
	for range 4 {
		full()
		c.does(stepAct)
	}
	c.is("up step 0 seq 1 saved 120 trying 120 of 120", "3; 1: f=2; 2 x1 119")
	full()
	c.does(crashAct(0))
	c.does(mountAct)
	c.does(stepAct)
	c.is("up step 0 seq 1 saved 120 trying 120 of 120", "3; 1: f=2; 2 x1 119")
	full()
}

func TestSyncOfTheSameVolume(t *testing.T) {
	c := newCourse(t)
	c.does(syncAct)
	c.is("up step 0 seq 0 saved 0 trying 0 of 0", "2; 1:")
	c.tells(callOf(impl.CaCreate, 1, "A"), impl.Result{Id: 2})
	c.does(syncAct)
	for range 4 {
		c.does(stepAct)
	}
	before := cloneDev(c.f.Dev)
	c.does(syncAct)
	c.is("up step 0 seq 1 saved 1 trying 1 of 1", "3; 1: A=2; 2 x1 ")
	// Calls that lead back to what is on the device are saved with it.
	c.tells(writeOf(1, "A", "x"), impl.Result{})
	c.tells(writeOf(1, "A", ""), impl.Result{})
	c.is("up step 0 seq 1 saved 1 trying 1 of 3", "3; 1: A=2; 2 x1 ")
	c.does(syncAct)
	c.is("up step 0 seq 1 saved 3 trying 3 of 3", "3; 1: A=2; 2 x1 ")
	c.hasGoal(noVol)
	if !sameDev(c.f.Dev, before) {
		t.Error("a sync of the same volume writes something")
	}
	c.does(crashAct(-1))
	c.does(mountAct)
	c.is("down step 5 seq 1 saved 3 trying 3 of 3", "3; 1: A=2; 2 x1 ")
	c.pends(fileWrites()...)
}

// TestWhatCannotBe has each case that is 2, by hand.
func TestWhatCannotBe(t *testing.T) {
	w := newFsWords(t)
	courses := w.coursesOf()
	call := callAct(callOf(impl.CaCreate, 1, "new"))
	look := callAct(callOf(impl.CaLook, 1, "A"))
	mess := func(count int) func(f *impl.Fs) {
		return func(f *impl.Fs) { f.Dev.Pend = make([]impl.Write, count) }
	}
	last := func(f *impl.Fs) { f.Seq = 1000000 }
	spoilt := func(f *impl.Fs) { f.Dev.Blocks[0] = "mess" }
	for _, x := range []struct {
		of     string
		change func(f *impl.Fs)
		acts   []impl.Act
	}{
		{"new", nil, []impl.Act{stepAct, mountAct}},
		{"to log", nil, []impl.Act{syncAct, mountAct}},
		{"logged", nil, []impl.Act{syncAct, mountAct}},
		{"at home", nil, []impl.Act{syncAct, mountAct}},
		{"done", nil, []impl.Act{syncAct, mountAct}},
		{"logged, down by 1", nil, []impl.Act{call, look, syncAct, stepAct, crashAct(0), crashAct(1), crashAct(-1)}},
		{"logged, mounting by 1", nil, []impl.Act{call, look, syncAct, mountAct}},
		{"called", last, []impl.Act{syncAct, stepAct, mountAct}},
		{"new", last, []impl.Act{syncAct}},
		{"to log", last, []impl.Act{stepAct, syncAct}},
		{"to log", mess(40), []impl.Act{stepAct}},
		{"at home", mess(40), []impl.Act{stepAct}},
		{"at home", mess(37), []impl.Act{stepAct}},
		{"logged, down by 1", mess(37), []impl.Act{mountAct}},
		{"logged, down by 1", mess(40), []impl.Act{mountAct}},
		{"new, down by 0", spoilt, []impl.Act{mountAct}},
		{"new, down by 0", func(f *impl.Fs) { f.Dev.Blocks[17] = "mess" }, []impl.Act{mountAct}},
		{"new, down by 0", func(f *impl.Fs) { f.Dev.Blocks = make([]string, 18) }, []impl.Act{mountAct}},
	} {
		f := courses[x.of]
		if x.change != nil {
			f = withFs(f, x.change)
		}
		wantFsOk(t, x.of, f, true)
		for _, a := range x.acts {
			wantAct(t, x.of, f, a, f, impl.Result{}, 2)
		}
	}
	// One step from there it can be.
	for _, x := range []struct {
		of     string
		change func(f *impl.Fs)
		act    impl.Act
	}{
		{"to log", func(f *impl.Fs) { f.Seq = 999999 }, stepAct},
		{"called", func(f *impl.Fs) { f.Seq = 999999 }, syncAct},
		{"logged", last, stepAct},
		{"at home", last, stepAct},
		{"done", last, stepAct},
		{"logged, mounting by 1", last, stepAct},
		{"logged, down by 1", last, mountAct},
		{"to log", mess(39), stepAct},
		{"logged", mess(40), stepAct},
		{"at home", mess(36), stepAct},
		{"done", mess(40), stepAct},
		{"logged, down by 1", mess(36), mountAct},
		{"new, down by 0", mess(40), mountAct},
	} {
		f := withFs(courses[x.of], x.change)
		if _, _, code := w.wantActByWords(t, x.of, f, x.act); code != 0 {
			t.Errorf("%s of %s cannot be", shownAct(x.act), shownFs(f))
		}
	}
}

// TestCrashesByHand has a fall at each step, and the mount behind it.
func TestCrashesByHand(t *testing.T) {
	const none, one, two = "2; 1:", "3; 1: A=2; 2 x1 ", "4; 1: A=2 b=3; 2 x1 ; 3 x1 "
	for _, x := range []struct {
		steps int
		mask  int
		calls int
		mem   string
		outs  int
	}{
		{0, 0, 0, none, 0}, {0, -1, 0, none, 0}, {0, 1<<40 - 1, 0, none, 0},
		{1, 0, 0, none, 0}, {1, -1, 0, none, 0}, {1, 2, 0, none, 0}, {1, 1, 1, one, 3}, {1, 1<<40 - 1, 1, one, 3},
		{2, 0, 1, one, 3}, {2, -1, 1, one, 3}, {2, 7, 1, one, 3},
		{3, 0, 1, one, 3}, {3, 1, 1, one, 3}, {3, 2, 1, one, 3}, {3, 3, 1, one, 3}, {3, 4, 1, one, 3}, {3, 5, 1, one, 3}, {3, 6, 1, one, 3}, {3, 7, 1, one, 3}, {3, -1, 1, one, 3},
		{4, 0, 1, one, 3}, {4, -1, 1, one, 3}, {4, 7, 1, one, 3},
	} {
		c := newCourse(t)
		c.does(callAct(callOf(impl.CaCreate, 1, "A")))
		c.does(syncAct)
		// A call that comes when the sync has begun is not in it.
		c.does(callAct(callOf(impl.CaCreate, 1, "b")))
		for range x.steps {
			c.does(stepAct)
		}
		before := c.f
		c.does(crashAct(x.mask))
		if c.f.Up || c.f.Step != 0 || c.f.Seq != before.Seq || c.f.Saved != before.Saved || c.f.Trying != 1 || len(c.f.Calls) != 2 || len(c.f.Base) != 0 || len(c.f.Dev.Pend) != 0 || showVol(c.f.Mem) != noVol || showVol(c.f.Goal) != noVol {
			t.Errorf("behind %d steps it fell to %s", x.steps, shownFs(c.f))
		}
		wantTrue(t, "down", c.f, true)
		c.cannot(callAct(callOf(impl.CaLook, 1, "A")), syncAct, stepAct, crashAct(0))
		seq := min(1, x.outs)
		count := strconv.Itoa(x.calls)
		c.does(mountAct)
		c.is("down step 5 seq "+strconv.Itoa(seq)+" saved "+count+" trying "+count+" of "+count, x.mem)
		c.pends(fileWrites()[:x.outs]...)
		c.hasGoal(noVol)
		c.cannot(callAct(callOf(impl.CaLook, 1, "A")), syncAct, mountAct)
		c.does(stepAct)
		c.is("up step 0 seq "+strconv.Itoa(seq)+" saved "+count+" trying "+count+" of "+count, x.mem)
		if c.pends(); x.calls == 1 {
			c.hasBase(fileBlocks())
			c.hasBlocks(withLog(fileBlocks(), fileJournal()))
			c.tells(callOf(impl.CaCreate, 1, "b"), impl.Result{Id: 3})
			c.is("up step 0 seq 1 saved 1 trying 1 of 2", two)
		} else {
			c.hasBase(emptyBlocks())
			c.hasBlocks(withLog(emptyBlocks(), ""))
		}
	}
}

// crashMasks has each part of the writes, where they are few; else none, all, each alone, all but one, and some.
func crashMasks(s *steady, count int) []int {
	var out []int
	if count <= 6 {
		for mask := range 1 << count {
			out = append(out, mask)
		}
		return append(out, -1)
	}
	all := 1<<count - 1
	out = []int{0, all, -1}
	for i := range count {
		out = append(out, 1<<i, all^1<<i, 1<<i-1)
	}
	for range 10 {
		out = append(out, s.below(all))
	}
	return out
}

// mountsTo asks that the mount behind a fall tells one of the volumes, and tells which.
func mountsTo(t *testing.T, f impl.Fs, vols []impl.Vol) (impl.Fs, int) {
	t.Helper()
	got, _, code := impl.FsDo(f, mountAct)
	at := slices.IndexFunc(vols, func(v impl.Vol) bool { return sameVol(v, got.Mem) })
	if code != 0 || at < 0 || got.Up || got.Step != 5 || len(got.Calls) != got.Saved || got.Saved != got.Trying || !impl.True(got) {
		t.Fatalf("the mount of %s tells %d, %s", shownFs(f), code, shownFs(got))
	}
	return got, at
}

// fallsAndMounts has the machine fall with each part of its writes, and again in the midst of each mount: what the first mount tells stays.
func fallsAndMounts(t *testing.T, s *steady, f impl.Fs, vols []impl.Vol) {
	t.Helper()
	for _, mask := range crashMasks(s, len(f.Dev.Pend)) {
		down, _, code := impl.FsDo(f, crashAct(mask))
		if code != 0 || !impl.True(down) {
			t.Fatalf("the fall by %b of %s tells %d, %s", mask, shownFs(f), code, shownFs(down))
		}
		mounting, at := mountsTo(t, down, vols)
		again := crashMasks(s, len(mounting.Dev.Pend))
		for _, mask := range []int{0, again[s.below(len(again))], again[s.below(len(again))], 1<<40 - 1} {
			down, _, _ := impl.FsDo(mounting, crashAct(mask))
			second, _ := mountsTo(t, down, vols[at:at+1])
			if !sameFs(second, withFs(mounting, func(f *impl.Fs) { f.Dev = second.Dev })) {
				t.Fatalf("the second mount tells %s, the first one %s", shownFs(second), shownFs(mounting))
			}
			up, _, code := impl.FsDo(second, stepAct)
			if code != 0 || !up.Up || up.Step != 0 || len(up.Dev.Pend) != 0 || !sameVol(up.Mem, vols[at]) || !slices.Equal(up.Dev.Blocks[:17], up.Base) || !impl.True(up) {
				t.Fatalf("the step behind it tells %d, %s", code, shownFs(up))
			}
		}
	}
}

// TestFallsAtEachStep is promise 10, at each step of syncs with few and with many writes, and of mounts.
func TestFallsAtEachStep(t *testing.T) {
	w := newFsWords(t)
	s := steady{77}
	first, later := firstCalls(), laterCalls()
	volBehind := func(l ...[]impl.Call) impl.Vol {
		all := slices.Concat(l...)
		v, ok := w.fold(all, len(all))
		if !ok {
			t.Fatal("a call is refused")
		}
		return v
	}
	empty, firstVol, bothVol := volBehind(), volBehind(first), volBehind(first, later)
	called := w.behind(newFsByWords(), callActs(first...)...)
	synced := w.syncedFs()
	// Behind the second step the journal is on the device, so that only the new volume is there.
	for step, can := range [][]impl.Vol{{empty}, {empty, firstVol}, {firstVol}, {firstVol}, {firstVol}} {
		f := w.behind(called, append([]impl.Act{syncAct}, times(step, stepAct)...)...)
		fallsAndMounts(t, &s, f, can)
		if step < 4 {
			fallsAndMounts(t, &s, w.behind(f, callActs(later...)...), can)
		}
	}
	for step, can := range [][]impl.Vol{{firstVol}, {firstVol, bothVol}, {bothVol}, {bothVol}, {bothVol}} {
		f := w.behind(synced, append([]impl.Act{syncAct}, times(step, stepAct)...)...)
		fallsAndMounts(t, &s, f, can)
		fallsAndMounts(t, &s, w.behind(f, callActs(callOf(impl.CaUnlink, 1, "a2"), callOf(impl.CaMkdir, 3, "e"))...), can)
	}
	fallsAndMounts(t, &s, newFsByWords(), []impl.Vol{empty})
	fallsAndMounts(t, &s, called, []impl.Vol{empty})
	fallsAndMounts(t, &s, synced, []impl.Vol{firstVol})
}

// greatestCalls lead to a volume with as many bytes as MaxCalls calls can: each has a name of 24 bytes in it.
func greatestCalls() []impl.Call {
	name := func(i int) string { return strings.Repeat("\xea\xb0\x81", 7) + "n" + strconv.Itoa(10+i) }
	out := []impl.Call{callOf(impl.CaCreate, 1, name(0))}
	for i := range 10 {
		out = append(out, callOf(impl.CaMkdir, 1, name(1+i)))
	}
	for dir := 3; len(out) < 120; dir++ {
		for i := 0; i < 12 && len(out) < 120; i++ {
			out = append(out, linkOf(1, name(0), dir, name(i)))
		}
	}
	return out
}

// TestTheGreatestSync asks that what calls can lead to is never more than a journal has room for.
func TestTheGreatestSync(t *testing.T) {
	w := newFsWords(t)
	s := steady{5}
	calls := greatestCalls()
	goal, ok := impl.FoldCalls(calls, 120)
	if !ok {
		t.Fatal("a call is refused")
	}
	f := newFsByWords()
	for _, c := range calls {
		f, _, _ = impl.FsDo(f, callAct(c))
	}
	if len(f.Calls) != 120 || !sameVol(f.Mem, goal) {
		t.Fatal(shownFs(f))
	}
	f, _, _ = w.wantActByWords(t, "the greatest", f, syncAct)
	for step, can := range [][]impl.Vol{{impl.NewVol()}, {impl.NewVol(), goal}, {goal}, {goal}, {goal}} {
		if f.Step != (1+step)%5 {
			t.Fatal(shownFs(f))
		}
		wantTrue(t, "the greatest", f, true)
		for _, mask := range []int{0, 1 + 2*s.below(1<<12)} {
			down, _, _ := impl.FsDo(f, crashAct(mask))
			mountsTo(t, down, can)
		}
		if step == 1 && len(f.Dev.Pend[0].Text) < 3000 {
			t.Error("the journal is not great:", len(f.Dev.Pend[0].Text))
		}
		if step < 4 {
			f, _, _ = w.wantActByWords(t, "the greatest", f, stepAct)
		}
	}
}

// A ledger knows what came of the calls without asking the machine: the volume behind each of those that changed something.
type ledger struct {
	w      fsWords
	vols   []impl.Vol
	done   int
	trying int
}

func newLedger(w fsWords) *ledger { return &ledger{w: w, vols: []impl.Vol{newFsByWords().Mem}} }

func (l *ledger) last() impl.Vol { return l.vols[len(l.vols)-1] }

// can has the volumes that may be mounted, the one of the last sync that was done first.
func (l *ledger) can() []impl.Vol { return []impl.Vol{l.vols[l.done], l.vols[l.trying]} }

// enters notes an act that was done, by what the machine was before it.
func (l *ledger) enters(t *testing.T, before impl.Fs, a impl.Act, after impl.Fs) {
	t.Helper()
	switch a.Kind {
	case impl.AcCall:
		if v, _ := l.w.do(l.last(), a.Call); !sameVol(v, l.last()) {
			l.vols = append(l.vols, v)
		}
	case impl.AcSync:
		l.trying = len(l.vols) - 1
		if after.Step == 0 {
			l.done = l.trying
		}
	case impl.AcStep:
		if before.Step == 4 {
			l.done = l.trying
		}
	case impl.AcMount:
		switch {
		case sameVol(after.Mem, l.vols[l.trying]):
			l.done = l.trying
		case sameVol(after.Mem, l.vols[l.done]):
			l.trying = l.done
		default:
			t.Fatalf("mounted is neither what was synced to its end nor what was on its way: %s", shownFs(after))
		}
		l.vols = l.vols[:1+l.done]
	}
}

// someCall asks for something in what is there.
func (s *steady) someCall(v impl.Vol) impl.Call {
	names := []string{"FILE", "file", "\xc3\x85", "a\xcc\x8a", "ss", "\xc3\x9f", "d", "D", "e", strings.Repeat("\xea\xb0\x81", 8)}
	id := func() int { return v.Inodes[s.below(len(v.Inodes))].Id }
	c := callOf(1+s.below(8), id(), names[s.below(len(names))])
	if s.below(3) == 0 {
		c.Kind = impl.CaCreate + s.below(2)
	}
	if c.Kind == impl.CaLink || c.Kind == impl.CaRename {
		c.To, c.As = id(), names[s.below(len(names))]
	}
	if c.Kind == impl.CaWrite {
		c.Data = mixedText(s.below(22))
	}
	return c
}

// someAct is mostly one that can be.
func (s *steady) someAct(f impl.Fs) impl.Act {
	at := s.below(100)
	switch {
	case at < 4:
		return impl.Act{Kind: s.below(8) - 1, N: s.below(9), Call: callOf(impl.CaCreate, 1, "x")}
	case !f.Up && f.Step == 0:
		return mountAct
	case at < 12:
		return crashAct(s.below(1<<18) - 1)
	case !f.Up || f.Step != 0 && at < 60:
		return stepAct
	case f.Step == 0 && at < 30:
		return syncAct
	}
	return callAct(s.someCall(f.Mem))
}

// TestLongPlays is promise 10: in each machine of long plays, and behind any fall of it, there is what the ledger has.
func TestLongPlays(t *testing.T) {
	w := newFsWords(t)
	falls, lost, kept := 0, 0, 0
	for seed := range 12 {
		s := steady{uint64(3000 + seed)}
		f, l := newFsByWords(), newLedger(w)
		var acts []impl.Act
		var codes []int
		for range 120 {
			a := s.someAct(f)
			after, _, code := w.wantActByWords(t, "a long play", f, a)
			if code == 0 {
				l.enters(t, f, a, after)
			}
			if code == 0 && a.Kind == impl.AcMount && len(after.Calls) < len(f.Calls) {
				lost++
			} else if code == 0 && a.Kind == impl.AcMount {
				kept++
			}
			f, acts, codes = after, append(acts, a), append(codes, code)
			wantTrue(t, "a long play", f, true)
			if (f.Up || f.Step == 5) && !sameVol(f.Mem, l.last()) || len(f.Calls) != len(l.vols)-1 && f.Up || f.Saved != l.done || f.Trying != l.trying {
				t.Fatalf("the ledger has %d, %d of %d: %s", l.done, l.trying, len(l.vols)-1, shownFs(f))
			}
			if t.Failed() {
				return
			}
			if f.Up || f.Step == 5 {
				falls++
				masks := crashMasks(&s, len(f.Dev.Pend))
				for range 4 {
					down, _, _ := impl.FsDo(f, crashAct(masks[s.below(len(masks))]))
					mountsTo(t, down, l.can())
				}
			}
			if len(acts)%30 == 0 {
				wantPlay(t, "a long play", acts, f, codes)
			}
		}
	}
	if falls == 0 || lost == 0 || kept == 0 {
		t.Error("falls, and calls that were lost or not:", falls, lost, kept)
	}
}

// TestEachShortPlay goes each way of a few acts, and asks each machine that comes about once.
func TestEachShortPlay(t *testing.T) {
	w := newFsWords(t)
	acts := append(callActs(callOf(impl.CaCreate, 1, "a"), writeOf(1, "A", "x"), callOf(impl.CaUnlink, 1, "a")), syncAct, stepAct, mountAct, crashAct(0), crashAct(1), crashAct(6), crashAct(1<<40-1))
	seen := map[string]bool{}
	now := []impl.Fs{newFsByWords()}
	for range 9 {
		var next []impl.Fs
		for _, f := range now {
			for _, a := range acts {
				want, wantTold, wantCode := w.act(f, a)
				got, told, code := impl.FsDo(f, a)
				if code != wantCode || told != wantTold || !sameFs(got, want) {
					t.Fatalf("FsDo(%s) of %s\n is   %s, %+v, %d\n want %s, %+v, %d", shownAct(a), shownFs(f), shownFs(got), told, code, shownFs(want), wantTold, wantCode)
				}
				if key := shownFs(got); code == 0 && !seen[key] {
					seen[key] = true
					next = append(next, got)
					if !impl.FsOk(got) || !impl.True(got) {
						t.Fatalf("not right, or not true: %s", key)
					}
				}
			}
		}
		now = next
	}
	if len(seen) < 500 {
		t.Error("only so many machines:", len(seen))
	}
}

func TestFoldCalls(t *testing.T) {
	w := newFsWords(t)
	calls := append(firstCalls(), laterCalls()...)
	for n, want := range []string{
		"2; 1:",
		"3; 1: A=2; 2 x1 ",
		"4; 1: A=2 d=3; 2 x1 ; 3:",
		"4; 1: A=2 d=3; 2 x1 hi; 3:",
		"4; 1: A=2 d=3; 2 x2 hi; 3: \xc3\x85=2",
		"4; 1: A=2 d=3; 2 x2 later; 3: \xc3\x85=2",
		"5; 1: A=2 d=3; 2 x2 later; 3: File=4 \xc3\x85=2; 4 x1 ",
		"5; 1: a2=2 d=3; 2 x2 later; 3: File=4 \xc3\x85=2; 4 x1 ",
	} {
		v, ok := w.fold(calls, n)
		wantFoldOf(t, "in order", calls, n, v, true)
		if showVol(v) != want || !ok {
			t.Errorf("the words of %d calls are %s, want %s", n, showVol(v), want)
		}
		if got, ok := impl.FoldCalls(calls[:n], n); !ok || !sameVol(got, v) {
			t.Errorf("all of %d calls are %s", n, showVol(got))
		}
	}
	for _, n := range []int{math.MinInt, -1, len(calls) + 1, len(calls) + 2, 120, 121, 1 << 32, math.MaxInt} {
		wantFoldOf(t, "out of range", calls, n, impl.Vol{}, false)
	}
	wantFoldOf(t, "nothing", nil, 0, impl.NewVol(), true)
	wantFoldOf(t, "one of nothing", nil, 1, impl.Vol{}, false)
	wantFoldOf(t, "-1 of nothing", nil, -1, impl.Vol{}, false)
}

// TestFoldCallsThatAreRefused asks that it goes on, and says false from there on.
func TestFoldCallsThatAreRefused(t *testing.T) {
	w := newFsWords(t)
	calls := append(firstCalls(), laterCalls()...)
	for _, refused := range []impl.Call{callOf(impl.CaUnlink, 1, "none"), callOf(impl.CaRmdir, 1, "none"), {}, callOf(9, 1, "A"), callOf(impl.CaCreate, 7, "A"), callOf(impl.CaLook, 1, "none"), writeOf(1, "A", strings.Repeat("d", 21)), callOf(impl.CaCreate, 1, "/")} {
		for at := range len(calls) + 1 {
			l := slices.Insert(slices.Clone(calls), at, refused)
			for n := range len(l) + 1 {
				want, wantOk := w.fold(l, n)
				wantFoldOf(t, "with one that is refused", l, n, want, wantOk)
				if without, _ := w.fold(calls, min(n, at)+max(0, n-at-1)); wantOk != (n <= at) || !sameVol(want, without) {
					t.Errorf("the words of %s and %d are %s, %v", shownCalls(l), n, showVol(want), wantOk)
				}
			}
		}
	}
	// What is VoOk and changes nothing is not refused.
	l := append(calls, callOf(impl.CaLook, 1, "d"), writeOf(1, "A2", "later"))
	want, _ := w.fold(calls, len(calls))
	wantFoldOf(t, "with some that change nothing", l, len(l), want, true)
}

func TestFoldCallsUpToMaxCalls(t *testing.T) {
	w := newFsWords(t)
	for _, l := range [][]impl.Call{manyCalls(120), greatestCalls(), make([]impl.Call, 120), slices.Repeat([]impl.Call{callOf(impl.CaCreate, 1, "A")}, 120)} {
		for _, n := range []int{0, 1, 60, 119, 120} {
			want, wantOk := w.fold(l, n)
			wantFoldOf(t, "MaxCalls", l, n, want, wantOk)
		}
		for _, n := range []int{-1, 121} {
			wantFoldOf(t, "MaxCalls, out of range", l, n, impl.Vol{}, false)
		}
		more := append(slices.Clone(l), l[0])
		for _, n := range []int{-1, 0, 1, 119, 120, 121, 122} {
			wantFoldOf(t, "one more than MaxCalls", more, n, impl.Vol{}, false)
		}
	}
	wantFoldOf(t, "many", make([]impl.Call, 100000), 0, impl.Vol{}, false)
	if v, ok := impl.FoldCalls(manyCalls(120), 120); !ok || showVol(v) != "3; 1: f=2; 2 x1 119" {
		t.Error(showVol(v), ok)
	}
}

func TestPlayOfNothing(t *testing.T) {
	wantPlay(t, "nil", nil, newFsByWords(), nil)
	wantPlay(t, "no acts", []impl.Act{}, newFsByWords(), nil)
}

func TestPlayUpToMaxActs(t *testing.T) {
	w := newFsWords(t)
	ones := slices.Repeat([]int{1}, 120)
	wantPlay(t, "acts that are none", make([]impl.Act, 120), newFsByWords(), ones)
	wantPlay(t, "one act that is none", make([]impl.Act, 1), newFsByWords(), ones[:1])
	wantPlay(t, "one more", make([]impl.Act, 121), impl.Fs{}, nil)
	wantPlay(t, "many", make([]impl.Act, 100000), impl.Fs{}, nil)
	calls := callActs(manyCalls(120)...)
	full := w.behind(newFsByWords(), calls...)
	wantPlay(t, "120 calls", calls, full, make([]int, 120))
	wantPlay(t, "119 calls", calls[:119], w.behind(newFsByWords(), calls[:119]...), make([]int, 119))
	wantPlay(t, "121 calls", callActs(manyCalls(121)...), impl.Fs{}, nil)
	if len(full.Calls) != 120 || showVol(full.Mem) != "3; 1: f=2; 2 x1 119" {
		t.Error(shownFs(full))
	}
}

func TestPlayByHand(t *testing.T) {
	create := callAct(callOf(impl.CaCreate, 1, "A"))
	acts := []impl.Act{mountAct, stepAct, create, create, syncAct, syncAct, stepAct, {Kind: 6}, crashAct(1), create, crashAct(0), mountAct, mountAct, create, stepAct, create, syncAct, {}}
	codes := []int{2, 2, 0, 0, 0, 2, 0, 1, 0, 2, 2, 0, 2, 2, 0, 0, 0, 1}
	got, told := impl.Play(acts)
	if !slices.Equal(told, codes) || numbersOf(got) != "up step 0 seq 1 saved 1 trying 1 of 1" || showVol(got.Mem) != "3; 1: A=2; 2 x1 " {
		t.Errorf("Play tells %v, %s", told, shownFs(got))
	}
	wantPlay(t, "by hand", acts, got, codes)
}

// TestPlayIsActByAct asks each beginning of a play.
func TestPlayIsActByAct(t *testing.T) {
	w := newFsWords(t)
	s := steady{41}
	f := newFsByWords()
	var acts []impl.Act
	var codes []int
	for range 120 {
		a := s.someAct(f)
		after, _, code := impl.FsDo(f, a)
		f, acts, codes = after, append(acts, a), append(codes, code)
		if got, told := impl.Play(acts); !sameFs(got, f) || !slices.Equal(told, codes) {
			t.Fatalf("Play tells %v, %s\n want %v, %s", told, shownFs(got), codes, shownFs(f))
		}
	}
	if !w.fsOk(f) || len(codes) != 120 {
		t.Error(shownFs(f))
	}
}

func TestTrueOfEachMachine(t *testing.T) {
	w := newFsWords(t)
	for why, f := range w.coursesOf() {
		wantTrue(t, why, f, true)
	}
	trues, falses := 0, 0
	for why, f := range w.rareFs(t) {
		want := w.isTrue(f)
		wantTrue(t, why, f, want)
		if want {
			trues++
		} else {
			falses++
		}
	}
	if trues == 0 || falses == 0 {
		t.Error("true and not:", trues, falses)
	}
}

// TestTrueOfWhatIsChanged has machines that are right, and not true: by hand, one for each thing that is asked.
func TestTrueOfWhatIsChanged(t *testing.T) {
	w := newFsWords(t)
	courses := w.coursesOf()
	none := callOf(impl.CaUnlink, 1, "none")
	for _, x := range []struct {
		why, of string
		change  func(f *impl.Fs)
	}{
		{"a call lacks", "called", func(f *impl.Fs) { f.Calls = f.Calls[1:] }},
		{"the last call lacks", "called", func(f *impl.Fs) { f.Calls = f.Calls[:2] }},
		{"a call more", "called", func(f *impl.Fs) { f.Calls = append(f.Calls, writeOf(1, "A", "more")) }},
		{"a call that is refused more", "called", func(f *impl.Fs) { f.Calls = append(f.Calls, none) }},
		{"another call", "called", func(f *impl.Fs) { f.Calls[0].Name = "B" }},
		{"another spelling", "called", func(f *impl.Fs) { f.Calls[0].Name = "a" }},
		{"calls change places", "synced", func(f *impl.Fs) { f.Calls[0], f.Calls[1] = f.Calls[1], f.Calls[0] }},
		{"no calls", "synced", func(f *impl.Fs) { f.Calls, f.Saved, f.Trying = nil, 0, 0 }},
		{"Mem is another one", "synced", func(f *impl.Fs) { f.Mem = impl.NewVol() }},
		{"Mem is another one in Next", "new", func(f *impl.Fs) { f.Mem.Next = 3 }},
		{"Mem is another one while it mounts", "synced, mounting by 0", func(f *impl.Fs) { f.Mem = impl.NewVol() }},
		{"a call more while it mounts", "synced, mounting by 0", func(f *impl.Fs) { f.Calls = append(f.Calls, writeOf(1, "A", "more")) }},
		{"Saved and Trying are less", "synced", func(f *impl.Fs) { f.Saved, f.Trying = 2, 2 }},
		{"Saved and Trying are 0", "synced", func(f *impl.Fs) { f.Saved, f.Trying = 0, 0 }},
		{"Saved and Trying are more", "called", func(f *impl.Fs) { f.Saved, f.Trying = 1, 3 }},
		{"Saved is more", "logged", func(f *impl.Fs) { f.Saved = 3 }},
		{"Saved is one more", "logged", func(f *impl.Fs) { f.Saved = 1 }},
		{"Trying is less", "logged", func(f *impl.Fs) { f.Trying = 2 }},
		{"Trying is 0", "logged", func(f *impl.Fs) { f.Trying = 0 }},
		{"Trying is less, at home", "at home", func(f *impl.Fs) { f.Trying = 2 }},
		{"Trying is less, done", "done", func(f *impl.Fs) { f.Trying = 0 }},
		{"Saved and Trying are less, down", "synced, down by 0", func(f *impl.Fs) { f.Saved, f.Trying = 1, 2 }},
		{"no calls, down", "synced, down by 0", func(f *impl.Fs) { f.Calls, f.Saved, f.Trying = nil, 0, 0 }},
		{"another call, down", "synced, down by 0", func(f *impl.Fs) { f.Calls[2].Data = "ho" }},
		{"Saved and Trying are less, while it mounts", "synced, mounting by 0", func(f *impl.Fs) { f.Saved, f.Trying = 0, 1 }},
		{"the device has no volume", "new", func(f *impl.Fs) { f.Dev = impl.NewDev() }},
		{"the device has no volume, down", "new, down by 0", func(f *impl.Fs) { f.Dev = impl.NewDev() }},
		{"the device has another volume", "new", func(f *impl.Fs) { f.Dev.Blocks = withLog(textsOfVol(twoNames()), "") }},
		{"a journal that is none", "new", func(f *impl.Fs) { f.Dev.Blocks[17] = "mess" }},
		{"a journal that is none, if it is done", "new", func(f *impl.Fs) { f.Dev.Pend = []impl.Write{write(17, "mess")} }},
		{"a block that is none, if it is done", "synced", func(f *impl.Fs) { f.Dev.Pend = []impl.Write{write(9, "mess")} }},
		{"a block that is none, until it is done", "synced", func(f *impl.Fs) {
			f.Dev.Blocks[9], f.Dev.Pend = "mess", []impl.Write{write(9, "")}
		}},
		{"another volume, if it is done", "new", func(f *impl.Fs) { f.Dev.Pend = fileWrites() }},
		{"another volume, until it is done", "new", func(f *impl.Fs) { f.Dev.Blocks[0], f.Dev.Pend = "u\x03\x01", []impl.Write{write(0, "u\x02\x01")} }},
	} {
		f, there := courses[x.of]
		if !there {
			t.Fatal("no such machine:", x.of)
		}
		wantTrue(t, x.of, f, true)
		f = withFs(f, x.change)
		wantFsOk(t, x.why, f, true)
		wantTrue(t, x.why, f, false)
		if w.isTrue(f) {
			t.Errorf("the words say true of %s", x.why)
		}
	}
}

// TestTrueOfWhatIsNotLookedAt has machines that are changed, and true: by hand.
func TestTrueOfWhatIsNotLookedAt(t *testing.T) {
	w := newFsWords(t)
	courses := w.coursesOf()
	for _, x := range []struct {
		why, of string
		change  func(f *impl.Fs)
	}{
		{"either of both", "synced", func(f *impl.Fs) { f.Saved = 0 }},
		{"the other one of both", "synced", func(f *impl.Fs) { f.Trying = 0 }},
		{"either of both, down", "synced, down by 0", func(f *impl.Fs) { f.Trying = 1 }},
		{"both, the other way round", "logged", func(f *impl.Fs) { f.Saved, f.Trying = f.Trying, f.Saved }},
		{"another Seq", "synced", func(f *impl.Fs) { f.Seq = 7 }},
		{"another Base", "synced", func(f *impl.Fs) { f.Base = textsOfVol(twoNames()) }},
		{"a call that changes nothing", "synced", func(f *impl.Fs) { f.Calls = append(f.Calls, callOf(impl.CaLook, 1, "a")) }},
		{"calls that nothing has, down", "synced, down by 0", func(f *impl.Fs) { f.Calls = append(f.Calls, callOf(impl.CaUnlink, 1, "none")) }},
		{"a write of the same text", "synced", func(f *impl.Fs) { f.Dev.Pend = []impl.Write{write(0, f.Dev.Blocks[0])} }},
	} {
		f := withFs(courses[x.of], x.change)
		wantTrue(t, x.why, f, true)
		if !w.isTrue(f) {
			t.Errorf("the words say false of %s", x.why)
		}
	}
}

// TestMountTellsWhichCallsThereAre has Saved and Trying as they may be, with a volume that is one of both, both, or neither.
func TestMountTellsWhichCallsThereAre(t *testing.T) {
	w := newFsWords(t)
	calls := []impl.Call{callOf(impl.CaCreate, 1, "A"), writeOf(1, "A", "x"), writeOf(1, "A", ""), callOf(impl.CaUnlink, 1, "A")}
	for n := range 5 {
		v, _ := w.fold(calls, n)
		for saved := range 5 {
			for trying := range 5 {
				f := impl.Fs{Seq: 9, Dev: impl.Dev{Blocks: withLog(textsOfVol(v), "")}, Calls: calls, Saved: saved, Trying: trying}
				got, _, code := w.wantActByWords(t, "any counts", f, mountAct)
				count := saved
				if n == trying || n == 1 && trying == 3 || n == 3 && trying == 1 {
					count = trying
				}
				if code != 0 || got.Seq != 0 || len(got.Calls) != count || got.Saved != count || got.Trying != count || !slices.Equal(got.Calls, calls[:count]) || !sameVol(got.Mem, v) {
					t.Errorf("the volume of %d calls, %d saved and %d tried: %d, %s", n, saved, trying, code, shownFs(got))
				}
			}
		}
	}
}

// TestMountOfCallsThatAreRefused asks that only the volumes are held against each other, there and in True of a machine that is down.
func TestMountOfCallsThatAreRefused(t *testing.T) {
	w := newFsWords(t)
	calls := slices.Insert(firstCalls(), 1, callOf(impl.CaUnlink, 1, "none"))
	for n := range 5 {
		v, _ := w.fold(calls, n)
		f := impl.Fs{Dev: impl.Dev{Blocks: withLog(textsOfVol(v), "")}, Calls: calls, Trying: n}
		wantTrue(t, "down", f, true)
		got, _, code := w.wantActByWords(t, "with one that is refused", f, mountAct)
		if code != 0 || len(got.Calls) != n || got.Saved != n || got.Trying != n || !sameVol(got.Mem, v) {
			t.Errorf("the volume of %d calls: %d, %s", n, code, shownFs(got))
		}
		// With a Mem it is asked that each call is VoOk.
		wantTrue(t, "while it mounts", got, n < 2)
	}
}

// TestSyncedStays is promise 10 of many falls: what was synced to its end is there, whatever was done since then.
func TestSyncedStays(t *testing.T) {
	w := newFsWords(t)
	s := steady{611}
	f := w.behind(newFsByWords(), append(append(callActs(firstCalls()...), syncAct), times(4, stepAct)...)...)
	kept := cloneVol(f.Mem)
	for range 60 {
		for range s.below(4) {
			f, _, _ = impl.FsDo(f, callAct(s.someCall(f.Mem)))
		}
		f, _, _ = impl.FsDo(f, syncAct)
		for range s.below(2) {
			f, _, _ = impl.FsDo(f, stepAct)
		}
		// A fall that loses all that is under way, and others in the midst of the mounts.
		f, _, _ = impl.FsDo(f, crashAct(0))
		for range s.below(5) {
			f, _, _ = impl.FsDo(f, mountAct)
			f, _, _ = impl.FsDo(f, crashAct(s.below(1<<18)-1))
		}
		f, _, _ = impl.FsDo(f, mountAct)
		f, _, _ = impl.FsDo(f, stepAct)
		if !f.Up || !sameVol(f.Mem, kept) || len(f.Calls) != 3 || !slices.Equal(f.Calls, firstCalls()) || !impl.True(f) {
			t.Fatalf("it is not there any more: %s", shownFs(f))
		}
	}
}

// TestMachinesKeepNothing asks in between for other things, right and not right.
func TestMachinesKeepNothing(t *testing.T) {
	w := newFsWords(t)
	f := w.coursesOf()["at home"]
	for range 3 {
		w.wantActByWords(t, "first", f, stepAct)
		wantAct(t, "between", impl.Fs{}, stepAct, impl.Fs{}, impl.Result{}, 1)
		w.wantActByWords(t, "between", newFsByWords(), callAct(callOf(impl.CaCreate, 1, "A")))
		wantPlay(t, "between", []impl.Act{syncAct}, newFsByWords(), []int{0})
		wantFoldOf(t, "between", firstCalls(), 4, impl.Vol{}, false)
		wantTrue(t, "between", impl.Fs{}, false)
		wantTrue(t, "again", f, true)
		if !sameFs(impl.NewFs(), newFsByWords()) {
			t.Error("a new machine is another one")
		}
	}
}
