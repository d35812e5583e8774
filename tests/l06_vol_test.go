package tests

import (
	"math"
	"slices"
	"strconv"
	"strings"
	"testing"

	"loop.example/g00773/impl"
)

// volWords answers in the document's words, from what the tests know of directories.
type volWords struct{ dirWords }

func newVolWords(t *testing.T) volWords { return volWords{newDirWords(t)} }

func cloneVol(v impl.Vol) impl.Vol {
	v.Inodes = slices.Clone(v.Inodes)
	for i := range v.Inodes {
		v.Inodes[i].Ents = slices.Clone(v.Inodes[i].Ents)
	}
	return v
}

func sameInode(a, b impl.Inode) bool {
	return a.Id == b.Id && a.Kind == b.Kind && a.Links == b.Links && a.Data == b.Data && slices.Equal(a.Ents, b.Ents)
}

func sameVol(a, b impl.Vol) bool {
	return a.Next == b.Next && slices.EqualFunc(a.Inodes, b.Inodes, sameInode)
}

// inodeAt tells -1 where there is no inode with this id.
func inodeAt(v impl.Vol, id int) int {
	return slices.IndexFunc(v.Inodes, func(n impl.Inode) bool { return n.Id == id })
}

func entriesWith(v impl.Vol, id int) int {
	count := 0
	for _, n := range v.Inodes {
		for _, e := range n.Ents {
			if e.Id == id {
				count++
			}
		}
	}
	return count
}

// idsBelow adds what has an entry in what was found, until there is no more.
func idsBelow(v impl.Vol, dir int) []int {
	var found []int
	for more := true; more; {
		more = false
		for _, n := range v.Inodes {
			if n.Id != dir && !slices.Contains(found, n.Id) {
				continue
			}
			for _, e := range n.Ents {
				if !slices.Contains(found, e.Id) {
					found = append(found, e.Id)
					more = true
				}
			}
		}
	}
	return found
}

func (w volWords) inodeOk(v impl.Vol, n impl.Inode) bool {
	if n.Kind == 1 {
		return len(n.Ents) == 0 && len(n.Data) <= 20 && n.Links == entriesWith(v, n.Id)
	}
	for _, e := range n.Ents {
		if e.Id == 1 || inodeAt(v, e.Id) < 0 {
			return false
		}
	}
	return n.Kind == 2 && n.Data == "" && n.Links == 1 && w.dirWords.ok(n.Ents) && (n.Id == 1 || entriesWith(v, n.Id) == 1)
}

func (w volWords) ok(v impl.Vol) bool {
	if v.Next < 2 || v.Next > 100000 || len(v.Inodes) > 16 || len(v.Inodes) == 0 {
		return false
	}
	if v.Inodes[0].Id != 1 || v.Inodes[0].Kind != 2 {
		return false
	}
	below := idsBelow(v, 1)
	for i, n := range v.Inodes {
		if n.Id < 1 || n.Id > v.Next-1 || i > 0 && n.Id <= v.Inodes[i-1].Id {
			return false
		}
		if !w.inodeOk(v, n) || n.Id != 1 && !slices.Contains(below, n.Id) {
			return false
		}
	}
	return true
}

// callFields are what each kind names beside Dir and Name.
var callFields = map[int]string{1: "", 2: "", 3: "", 4: "", 5: "To As", 6: "To As", 7: "Data", 8: ""}

func callOkByWords(c impl.Call) bool {
	fields, kind := callFields[c.Kind]
	if !kind || c.Dir < 0 || c.Dir > 100000 || c.To < 0 || c.To > 100000 {
		return false
	}
	if len(c.Name) > 24 || len(c.As) > 24 || len(c.Data) > 20 {
		return false
	}
	return (c.To == 0 || strings.Contains(fields, "To")) && (c.As == "" || strings.Contains(fields, "As")) && (c.Data == "" || strings.Contains(fields, "Data"))
}

// refusedAll tells the code of what all kinds ask, or 0.
func (w volWords) refusedAll(v impl.Vol, c impl.Call) int {
	two := c.Kind == 5 || c.Kind == 6
	dir, to := inodeAt(v, c.Dir), inodeAt(v, c.To)
	if dir < 0 || two && to < 0 {
		return impl.VoNoEnt
	}
	if v.Inodes[dir].Kind != 2 || two && v.Inodes[to].Kind != 2 {
		return impl.VoNotDir
	}
	if w.key(c.Name) == "" || two && w.key(c.As) == "" {
		return impl.VoBad
	}
	return impl.VoOk
}

// change has the entries of a directory of v (which is the tests' own) changed; it must be a change that can be made.
func change(v impl.Vol, dir int, ents []impl.Ent, ok bool) {
	if !ok {
		panic("the words change what cannot be changed")
	}
	v.Inodes[inodeAt(v, dir)].Ents = ents
}

// lose has one link less, and what has none goes.
func lose(v impl.Vol, id int) impl.Vol {
	at := inodeAt(v, id)
	v.Inodes[at].Links--
	if v.Inodes[at].Links == 0 {
		v.Inodes = slices.Delete(v.Inodes, at, at+1)
	}
	return v
}

func (w volWords) do(v impl.Vol, c impl.Call) (impl.Vol, impl.Result) {
	if !w.ok(v) {
		return impl.Vol{}, impl.Result{Code: impl.VoBad}
	}
	if !callOkByWords(c) {
		return cloneVol(v), impl.Result{Code: impl.VoBad}
	}
	if code := w.refusedAll(v, c); code != impl.VoOk {
		return cloneVol(v), impl.Result{Code: code}
	}
	after, told := w.doKind(cloneVol(v), c)
	if told.Code != impl.VoOk {
		return cloneVol(v), told
	}
	return after, told
}

func (w volWords) doKind(v impl.Vol, c impl.Call) (impl.Vol, impl.Result) {
	ents := v.Inodes[inodeAt(v, c.Dir)].Ents
	e, there := w.look(ents, c.Name)
	refused := func(code int) (impl.Vol, impl.Result) { return v, impl.Result{Code: code} }
	if c.Kind == impl.CaCreate || c.Kind == impl.CaMkdir {
		if there {
			return refused(impl.VoExist)
		}
		return w.doMake(v, c, ents)
	}
	if !there {
		return refused(impl.VoNoEnt)
	}
	x := v.Inodes[inodeAt(v, e.Id)]
	isDir := x.Kind == 2
	less, dropped := w.drop(ents, c.Name)
	switch {
	case c.Kind == impl.CaLook:
		return v, impl.Result{Id: x.Id, Name: e.Name, Data: x.Data}
	case c.Kind == impl.CaRename:
		return w.doRename(v, c, x)
	case c.Kind == impl.CaRmdir && !isDir:
		return refused(impl.VoNotDir)
	case c.Kind == impl.CaRmdir && len(x.Ents) > 0:
		return refused(impl.VoNotEmpty)
	case c.Kind != impl.CaRmdir && isDir:
		return refused(impl.VoIsDir)
	case c.Kind == impl.CaRmdir, c.Kind == impl.CaUnlink:
		change(v, c.Dir, less, dropped)
		return lose(v, x.Id), impl.Result{}
	case c.Kind == impl.CaWrite:
		v.Inodes[inodeAt(v, x.Id)].Data = c.Data
		return v, impl.Result{}
	}
	to := v.Inodes[inodeAt(v, c.To)].Ents
	if _, there := w.look(to, c.As); there {
		return refused(impl.VoExist)
	}
	if len(to) == 12 {
		return refused(impl.VoNoSpc)
	}
	more, added := w.add(to, c.As, x.Id)
	change(v, c.To, more, added)
	v.Inodes[inodeAt(v, x.Id)].Links++
	return v, impl.Result{}
}

func (w volWords) doMake(v impl.Vol, c impl.Call, ents []impl.Ent) (impl.Vol, impl.Result) {
	if len(ents) == 12 || len(v.Inodes) == 16 || v.Next == 100000 {
		return v, impl.Result{Code: impl.VoNoSpc}
	}
	id := v.Next
	more, added := w.add(ents, c.Name, id)
	change(v, c.Dir, more, added)
	v.Inodes = append(v.Inodes, impl.Inode{Id: id, Kind: map[int]int{1: 1, 2: 2}[c.Kind], Links: 1})
	v.Next++
	return v, impl.Result{Id: id}
}

func (w volWords) doRename(v impl.Vol, c impl.Call, x impl.Inode) (impl.Vol, impl.Result) {
	if x.Kind == 2 && (c.To == x.Id || slices.Contains(idsBelow(v, x.Id), c.To)) {
		return v, impl.Result{Code: impl.VoLoop}
	}
	to := v.Inodes[inodeAt(v, c.To)].Ents
	e, there := w.look(to, c.As)
	switch {
	case !there && c.Dir != c.To && len(to) == 12:
		return v, impl.Result{Code: impl.VoNoSpc}
	case there && e.Id == x.Id:
		if c.Dir == c.To && w.alike(c.Name, c.As) {
			anew, spelled := w.respell(to, c.As, x.Id)
			change(v, c.To, anew, spelled)
		}
		return v, impl.Result{}
	case there:
		y := v.Inodes[inodeAt(v, e.Id)]
		if x.Kind == 2 && y.Kind == 1 {
			return v, impl.Result{Code: impl.VoNotDir}
		}
		if x.Kind == 2 && len(y.Ents) > 0 {
			return v, impl.Result{Code: impl.VoNotEmpty}
		}
		if x.Kind == 1 && y.Kind == 2 {
			return v, impl.Result{Code: impl.VoIsDir}
		}
		v = lose(v, y.Id)
		anew, spelled := w.respell(to, c.As, x.Id)
		change(v, c.To, anew, spelled)
	}
	less, dropped := w.drop(v.Inodes[inodeAt(v, c.Dir)].Ents, c.Name)
	change(v, c.Dir, less, dropped)
	if !there {
		more, added := w.add(v.Inodes[inodeAt(v, c.To)].Ents, c.As, x.Id)
		change(v, c.To, more, added)
	}
	return v, impl.Result{}
}

// roomyVol has v with room behind each of its lists, and tells whether all of it is as it was.
func roomyVol(v impl.Vol) (impl.Vol, func() bool) {
	inodes := slices.Clone(v.Inodes)
	var asked []func() bool
	for i, n := range inodes {
		ents, left := roomy(n.Ents)
		inodes[i].Ents = ents
		asked = append(asked, left)
	}
	for i := range 20 {
		inodes = append(inodes, impl.Inode{Id: -i, Kind: -7, Links: -7, Data: leftName})
	}
	before := slices.Clone(inodes)
	return impl.Vol{Next: v.Next, Inodes: inodes[:len(v.Inodes)]}, func() bool {
		for _, left := range asked {
			if !left() {
				return false
			}
		}
		return slices.EqualFunc(inodes, before, sameInode)
	}
}

// spoil writes over all memory of a volume, the room behind its lists included.
func spoil(v impl.Vol, mark int) {
	for _, n := range v.Inodes {
		for i := range n.Ents[:cap(n.Ents)] {
			n.Ents[:cap(n.Ents)][i] = impl.Ent{Hash: mark}
		}
	}
	for i := range v.Inodes[:cap(v.Inodes)] {
		v.Inodes[:cap(v.Inodes)][i] = impl.Inode{Id: mark}
	}
}

// listsShare asks whether two lists of entries of one volume share memory.
func listsShare(v impl.Vol) bool {
	for i, n := range v.Inodes {
		all := n.Ents[:cap(n.Ents)]
		before := slices.Clone(all)
		others := cloneVol(v)
		for j := range all {
			all[j] = impl.Ent{Hash: -5, Index: i}
		}
		for j, m := range v.Inodes {
			if j != i && !slices.Equal(m.Ents, others.Inodes[j].Ents) {
				return true
			}
		}
		copy(all, before)
	}
	return false
}

func wantVolOk(t *testing.T, why string, v impl.Vol, want bool) {
	t.Helper()
	given, left := roomyVol(v)
	if got := impl.VolOk(given); got != want {
		t.Errorf("VolOk(%v) = %v (%s)", v, got, why)
	}
	if !left() {
		t.Errorf("VolOk(%v): what it was given is changed (%s)", v, why)
	}
}

// wantDo asks an answer, that what was given is left, and that nothing is shared.
func wantDo(t *testing.T, v impl.Vol, c impl.Call, want impl.Vol, wantTold impl.Result) {
	t.Helper()
	given, left := roomyVol(v)
	got, told := impl.VolDo(given, c)
	if told != wantTold || !sameVol(got, want) {
		t.Errorf("VolDo(%+v)\n of   %+v\n is   %+v, %+v\n want %+v, %+v", c, v, got, told, want, wantTold)
		return
	}
	if !left() {
		t.Errorf("VolDo(%+v) of %v: what it was given is changed", c, v)
	}
	if listsShare(got) {
		t.Errorf("VolDo(%+v) of %v: two lists of the answer share memory", c, v)
	}
	kept := cloneVol(got)
	spoil(given, -8)
	if !sameVol(got, kept) {
		t.Errorf("VolDo(%+v) of %v: the answer is changed with what was given", c, v)
	}
	given, left = roomyVol(v)
	got, _ = impl.VolDo(given, c)
	spoil(got, -9)
	if !left() {
		t.Errorf("VolDo(%+v) of %v: what was given is changed with the answer", c, v)
	}
}

// wantByWords asks one call as the words have it, and what promise 6 says of it; the answer is the words'.
func (w volWords) wantByWords(t *testing.T, v impl.Vol, c impl.Call) (impl.Vol, impl.Result) {
	t.Helper()
	want, told := w.do(v, c)
	wantDo(t, v, c, want, told)
	if w.ok(v) {
		wantVolOk(t, "a right one stays right", want, true)
	}
	if told.Code != impl.VoOk && (told != impl.Result{Code: told.Code} || w.ok(v) && !sameVol(v, want)) {
		t.Errorf("the words of %+v: %+v", c, told)
	}
	return want, told
}

func callOf(kind, dir int, name string) impl.Call { return impl.Call{Kind: kind, Dir: dir, Name: name} }

func writeOf(dir int, name, data string) impl.Call {
	return impl.Call{Kind: impl.CaWrite, Dir: dir, Name: name, Data: data}
}

func linkOf(dir int, name string, to int, as string) impl.Call {
	return impl.Call{Kind: impl.CaLink, Dir: dir, Name: name, To: to, As: as}
}

func renameOf(dir int, name string, to int, as string) impl.Call {
	return impl.Call{Kind: impl.CaRename, Dir: dir, Name: name, To: to, As: as}
}

// volStory is a volume that is changed call by call, each answer asked by hand and by the words.
type volStory struct {
	t *testing.T
	w volWords
	v impl.Vol
}

func newStory(t *testing.T, w volWords) *volStory {
	return &volStory{t, w, impl.Vol{Next: 2, Inodes: []impl.Inode{{Id: 1, Kind: 2, Links: 1}}}}
}

func (s *volStory) do(c impl.Call, want impl.Result) {
	s.t.Helper()
	after, told := s.w.wantByWords(s.t, s.v, c)
	if told != want {
		s.t.Errorf("the words of %+v of %s are %+v, want %+v", c, showVol(s.v), told, want)
	}
	s.v = after
}

func (s *volStory) done(c impl.Call) {
	s.t.Helper()
	s.do(c, impl.Result{})
}

func (s *volStory) refused(code int, c impl.Call) {
	s.t.Helper()
	s.do(c, impl.Result{Code: code})
}

func (s *volStory) made(kind, dir int, name string) int {
	s.t.Helper()
	id := s.v.Next
	s.do(callOf(kind, dir, name), impl.Result{Id: id})
	return id
}

func (s *volStory) file(dir int, name string) int {
	s.t.Helper()
	return s.made(impl.CaCreate, dir, name)
}

func (s *volStory) dir(dir int, name string) int {
	s.t.Helper()
	return s.made(impl.CaMkdir, dir, name)
}

// shows asks what stands there, by hand.
func (s *volStory) shows(want string) {
	s.t.Helper()
	if got := showVol(s.v); got != want {
		s.t.Errorf("there stands\n %s, want\n %s", got, want)
	}
}

// showVol tells Next, and of each inode its Id, its names (sorted) or its Links and Data.
func showVol(v impl.Vol) string {
	out := strconv.Itoa(v.Next)
	for _, n := range v.Inodes {
		out += "; " + strconv.Itoa(n.Id)
		if n.Kind == 1 {
			out += " x" + strconv.Itoa(n.Links) + " " + n.Data
			continue
		}
		var names []string
		for _, e := range n.Ents {
			names = append(names, " "+e.Name+"="+strconv.Itoa(e.Id))
		}
		slices.Sort(names)
		out += ":" + strings.Join(names, "")
	}
	return out
}

// sample has files, directories in directories, an empty one, and a file with two names in one directory and one in another.
func sample(t *testing.T, w volWords) impl.Vol {
	s := newStory(t, w)
	s.file(1, "File")     // 2
	s.dir(1, "d")         // 3
	s.dir(3, "Deep")      // 4
	s.dir(1, "e")         // 5
	s.file(4, "\xc3\x85") // 6
	s.file(1, "gone")     // 7
	s.done(linkOf(1, "File", 1, "two"))
	s.done(linkOf(1, "two", 4, "three"))
	s.done(writeOf(1, "two", "hi"))
	s.done(callOf(impl.CaUnlink, 1, "gone"))
	s.shows("8; 1: File=2 d=3 e=5 two=2; 2 x3 hi; 3: Deep=4; 4: three=2 \xc3\x85=6; 5:; 6 x1 ")
	return s.v
}

// crowded has so many inodes, and no full directory.
func crowded(t *testing.T, w volWords, count int) impl.Vol {
	s := newStory(t, w)
	for i := 2; i <= count; i++ {
		name := "n" + strconv.Itoa(i)
		switch {
		case i <= 4:
			s.dir(i-1, name)
		default:
			s.file(1+i%4, name)
		}
	}
	return s.v
}

// fullDir has 12 entries in inode 1: ten names of one file, an empty directory, and one with a file and a directory.
func fullDir(t *testing.T, w volWords) impl.Vol {
	s := newStory(t, w)
	s.dir(1, "sub")   // 2
	s.file(1, "a")    // 3
	s.file(2, "over") // 4
	s.dir(2, "in")    // 5
	for i := range 9 {
		s.done(linkOf(1, "a", 1, "a"+strconv.Itoa(i)))
	}
	s.dir(1, "last") // 6
	if len(s.v.Inodes[0].Ents) != 12 {
		t.Fatal("not full", s.v)
	}
	return s.v
}

func TestVolConstants(t *testing.T) {
	if impl.MaxInodes != 16 || impl.MaxData != 20 || impl.KdFile != 1 || impl.KdDir != 2 {
		t.Error(impl.MaxInodes, impl.MaxData, impl.KdFile, impl.KdDir)
	}
	calls := []int{impl.CaCreate, impl.CaMkdir, impl.CaUnlink, impl.CaRmdir, impl.CaLink, impl.CaRename, impl.CaWrite, impl.CaLook}
	if !slices.Equal(calls, []int{1, 2, 3, 4, 5, 6, 7, 8}) {
		t.Error(calls)
	}
	codes := []int{impl.VoOk, impl.VoBad, impl.VoNoEnt, impl.VoExist, impl.VoNotDir, impl.VoIsDir, impl.VoNotEmpty, impl.VoNoSpc, impl.VoLoop}
	if !slices.Equal(codes, []int{0, 1, 2, 3, 4, 5, 6, 7, 8}) {
		t.Error(codes)
	}
}

func TestNewVol(t *testing.T) {
	want := impl.Vol{Next: 2, Inodes: []impl.Inode{{Id: 1, Kind: impl.KdDir, Links: 1}}}
	got := impl.NewVol()
	if !sameVol(got, want) {
		t.Errorf("NewVol() = %+v", got)
	}
	wantVolOk(t, "NewVol", got, true)
	spoil(got, -4)
	if again := impl.NewVol(); !sameVol(again, want) {
		t.Errorf("NewVol() = %+v when one was written over", again)
	}
}

func TestVolOkOfRightOnes(t *testing.T) {
	w := newVolWords(t)
	wantVolOk(t, "files and directories, a file with three names", sample(t, w), true)
	wantVolOk(t, "a full directory", fullDir(t, w), true)
	for count := 1; count <= 16; count++ {
		wantVolOk(t, "by count", crowded(t, w, count), true)
	}
	s := newStory(t, w)
	deep := 1
	for range 15 {
		deep = s.dir(deep, "d")
	}
	wantVolOk(t, "directories in directories", s.v, true)
	v := sample(t, w)
	v.Inodes[1], v.Inodes[4] = impl.Inode{Id: 2, Kind: 1, Links: 3, Data: strings.Repeat("\xff", 20)}, impl.Inode{Id: 5, Kind: 2, Links: 1, Ents: []impl.Ent{}}
	wantVolOk(t, "all of Data, an empty list", v, true)
	// A directory may have a lesser Id than the one it is in.
	v = impl.Vol{Next: 10, Inodes: []impl.Inode{
		{Id: 1, Kind: 2, Links: 1, Ents: []impl.Ent{w.ent(3, "up", 9)}},
		{Id: 4, Kind: 2, Links: 1},
		{Id: 9, Kind: 2, Links: 1, Ents: []impl.Ent{w.ent(12, "down", 4)}},
	}}
	wantVolOk(t, "a lesser Id below a greater one", v, true)
}

func TestVolOkByNext(t *testing.T) {
	for _, next := range []int{math.MinInt, -2, -1, 0, 1, 2, 3, 99999, 100000, 100001, 1 << 32, 1<<32 + 2, math.MaxInt} {
		v := impl.NewVol()
		v.Next = next
		wantVolOk(t, "Next", v, 2 <= next && next <= 100000)
	}
	w := newVolWords(t)
	for next := -1; next <= 9; next++ {
		v := sample(t, w)
		v.Next = next
		wantVolOk(t, "Next behind all Ids", v, next >= 7)
	}
}

func TestVolOkByCount(t *testing.T) {
	w := newVolWords(t)
	v := crowded(t, w, 16)
	wantVolOk(t, "16 inodes", v, true)
	for i := range 3 {
		id := v.Next
		v.Inodes = append(v.Inodes, impl.Inode{Id: id, Kind: 1, Links: 1})
		v.Inodes[1].Ents, _ = w.add(v.Inodes[1].Ents, "more"+strconv.Itoa(i), id)
		v.Next++
		wantVolOk(t, "17 inodes and more", v, false)
	}
	v = impl.NewVol()
	v.Next = 100000
	for i := 2; i < 5000; i++ {
		v.Inodes = append(v.Inodes, impl.Inode{Id: i, Kind: 1})
	}
	wantVolOk(t, "many", v, false)
}

// notRightVols has a volume for each way to be not right, and all else in it is right.
func notRightVols(t *testing.T, w volWords) map[string]impl.Vol {
	out := map[string]impl.Vol{"the zero one": {}, "no inode": {Next: 2}}
	with := func(why string, spoilt func(v *impl.Vol)) {
		v := cloneVol(sample(t, w))
		spoilt(&v)
		if _, twice := out[why]; twice || w.ok(v) {
			t.Error("a right volume among the others:", why)
		}
		out[why] = v
	}
	field := func(why string, id int, spoilt func(n *impl.Inode)) {
		with(why, func(v *impl.Vol) { spoilt(&v.Inodes[inodeAt(*v, id)]) })
	}
	notRightIds(with)
	notRightKinds(w, with, field)
	notRightTrees(w, with)
	for _, kind := range []int{math.MinInt, -1, 0, 3, 1<<32 + 1, math.MaxInt} {
		for _, id := range []int{1, 2, 5, 6} {
			field("Kind "+strconv.Itoa(kind)+" of "+strconv.Itoa(id), id, func(n *impl.Inode) { n.Kind = kind })
		}
	}
	for _, links := range []int{math.MinInt, -1, 0, 2, 4, 1<<32 + 1, 1<<32 + 3, math.MaxInt} {
		for _, id := range []int{1, 2, 3, 4, 5, 6} {
			field("Links "+strconv.Itoa(links)+" of "+strconv.Itoa(id), id, func(n *impl.Inode) { n.Links = links })
		}
	}
	for why, d := range w.notRight() {
		with("Ents: "+why, func(v *impl.Vol) {
			// Each entry leads to a file that has as many links, so that only the entries are not right.
			n := impl.Inode{Id: 8, Kind: 1, Links: len(d)}
			v.Next = 9
			v.Inodes = append(v.Inodes, n)
			v.Inodes[4].Ents = slices.Clone(d)
			for i := range v.Inodes[4].Ents {
				if e := &v.Inodes[4].Ents[i]; 1 <= e.Id && e.Id <= 100000 {
					e.Id = 8
				}
			}
		})
	}
	return out
}

func notRightIds(with func(string, func(*impl.Vol))) {
	for i := range 5 {
		with("inodes change places at "+strconv.Itoa(i), func(v *impl.Vol) { v.Inodes[i], v.Inodes[i+1] = v.Inodes[i+1], v.Inodes[i] })
	}
	with("an Id that is Next", func(v *impl.Vol) { v.Next = 6 })
	with("no inode 1", func(v *impl.Vol) { v.Inodes = v.Inodes[1:] })
	with("one inode twice", func(v *impl.Vol) { v.Inodes = slices.Insert(v.Inodes, 5, v.Inodes[4]) })
	with("inode 1 twice", func(v *impl.Vol) { v.Inodes = slices.Insert(v.Inodes, 0, v.Inodes[0]) })
	with("the first one is 0", func(v *impl.Vol) { v.Inodes[0].Id = 0 })
	with("the first one is -1", func(v *impl.Vol) { v.Inodes[0].Id = -1 })
	with("a 0 ahead of 1", func(v *impl.Vol) { v.Inodes = slices.Insert(v.Inodes, 0, impl.Inode{Kind: 2, Links: 1}) })
	with("only a directory 2", func(v *impl.Vol) {
		*v = impl.Vol{Next: 3, Inodes: []impl.Inode{{Id: 2, Kind: 2, Links: 1}}}
	})
	with("only a file 1", func(v *impl.Vol) { *v = impl.Vol{Next: 2, Inodes: []impl.Inode{{Id: 1, Kind: 1}}} })
	with("only a file 1 with a link", func(v *impl.Vol) {
		*v = impl.Vol{Next: 2, Inodes: []impl.Inode{{Id: 1, Kind: 1, Links: 1}}}
	})
	with("inode 1 a file", func(v *impl.Vol) { v.Inodes[0].Kind = 1 })
	with("Next is 1", func(v *impl.Vol) { v.Next, v.Inodes = 1, []impl.Inode{{Id: 1, Kind: 2, Links: 1}} })
	with("Next is passed", func(v *impl.Vol) { v.Next = 100001 })
}

func notRightKinds(w volWords, with func(string, func(*impl.Vol)), field func(string, int, func(*impl.Inode))) {
	with("a file with Ents", func(v *impl.Vol) {
		v.Inodes[5].Ents = []impl.Ent{w.ent(0, "a", 2)}
		v.Inodes[1].Links = 4
	})
	with("a file with Ents in a file alone", func(v *impl.Vol) {
		v.Next = 9
		v.Inodes = append(v.Inodes, impl.Inode{Id: 8, Kind: 1, Links: 1})
		v.Inodes[5].Ents = []impl.Ent{w.ent(0, "a", 8)}
	})
	field("21 bytes", 2, func(n *impl.Inode) { n.Data = strings.Repeat("x", 21) })
	field("many bytes", 6, func(n *impl.Inode) { n.Data = strings.Repeat("x", 100000) })
	for _, id := range []int{1, 3, 5} {
		field("a directory with Data "+strconv.Itoa(id), id, func(n *impl.Inode) { n.Data = "x" })
		field("a directory with a byte 0 "+strconv.Itoa(id), id, func(n *impl.Inode) { n.Data = "\x00" })
	}
	for _, id := range []int{1, 3, 4} {
		field("a file that had entries "+strconv.Itoa(id), id, func(n *impl.Inode) { n.Kind = 1 })
	}
	field("a directory with a file's links", 2, func(n *impl.Inode) { n.Kind, n.Data = 2, "" })
}

func notRightTrees(w volWords, with func(string, func(*impl.Vol))) {
	for _, id := range []int{7, 8, 100000, 1} {
		for _, at := range []int{0, 2, 4} {
			with("an entry of "+strconv.Itoa(id)+" at "+strconv.Itoa(at), func(v *impl.Vol) {
				v.Inodes[at].Ents, _ = w.add(v.Inodes[at].Ents, "other", id)
			})
		}
	}
	for _, links := range []int{1, 2} {
		for _, at := range []int{0, 2, 3, 4} {
			with("directory 5 with two entries at "+strconv.Itoa(at)+", Links "+strconv.Itoa(links), func(v *impl.Vol) {
				v.Inodes[at].Ents, _ = w.add(v.Inodes[at].Ents, "other", 5)
				v.Inodes[4].Links = links
			})
		}
	}
	with("a directory that no entry has", func(v *impl.Vol) { v.Inodes[0].Ents, _ = w.drop(v.Inodes[0].Ents, "e") })
	with("a directory with all below it that no entry has", func(v *impl.Vol) { v.Inodes[0].Ents, _ = w.drop(v.Inodes[0].Ents, "d") })
	with("a file that no entry has", func(v *impl.Vol) { v.Inodes[3].Ents, _ = w.drop(v.Inodes[3].Ents, "\xc3\x85") })
	with("a file that no entry has, Links 0", func(v *impl.Vol) {
		v.Inodes[3].Ents, _ = w.drop(v.Inodes[3].Ents, "\xc3\x85")
		v.Inodes[5].Links = 0
	})
	with("a directory in itself alone", func(v *impl.Vol) {
		v.Inodes[0].Ents, _ = w.drop(v.Inodes[0].Ents, "e")
		v.Inodes[4].Ents, _ = w.add(nil, "e", 5)
	})
	with("a directory in itself too", func(v *impl.Vol) { v.Inodes[4].Ents, _ = w.add(nil, "e", 5) })
	with("two directories below each other alone", func(v *impl.Vol) {
		v.Inodes[0].Ents, _ = w.drop(v.Inodes[0].Ents, "d")
		v.Inodes[3].Ents, _ = w.add(v.Inodes[3].Ents, "back", 3)
	})
	// One more below 1 than there may be, and one less: their number alone does not tell it.
	with("an entry of 1, and a file that no entry has", func(v *impl.Vol) {
		v.Inodes[3].Ents, _ = w.drop(v.Inodes[3].Ents, "\xc3\x85")
		v.Inodes[3].Ents, _ = w.add(v.Inodes[3].Ents, "\xc3\x85", 1)
		v.Inodes[5].Links = 0
	})
	with("an entry of 1, and a directory in itself alone", func(v *impl.Vol) {
		v.Inodes[0].Ents, _ = w.drop(v.Inodes[0].Ents, "e")
		v.Inodes[0].Ents, _ = w.add(v.Inodes[0].Ents, "e", 1)
		v.Inodes[4].Ents, _ = w.add(nil, "e", 5)
	})
	with("a directory in itself, and no inode 1", func(v *impl.Vol) {
		*v = impl.Vol{Next: 3, Inodes: []impl.Inode{{Id: 2, Kind: 2, Links: 1, Ents: []impl.Ent{w.ent(0, "a", 2)}}}}
	})
	with("two directories below each other, and no inode 1", func(v *impl.Vol) {
		*v = impl.Vol{Next: 4, Inodes: []impl.Inode{
			{Id: 2, Kind: 2, Links: 1, Ents: []impl.Ent{w.ent(0, "a", 3)}},
			{Id: 3, Kind: 2, Links: 1, Ents: []impl.Ent{w.ent(0, "b", 2)}},
		}}
	})
	with("a ring of three", func(v *impl.Vol) {
		v.Inodes[0].Ents, _ = w.drop(v.Inodes[0].Ents, "d")
		v.Inodes[0].Ents, _ = w.drop(v.Inodes[0].Ents, "e")
		v.Inodes[3].Ents, _ = w.add(v.Inodes[3].Ents, "e", 5)
		v.Inodes[4].Ents, _ = w.add(v.Inodes[4].Ents, "back", 3)
	})
	with("a name lacks", func(v *impl.Vol) { v.Inodes[0].Ents, _ = w.drop(v.Inodes[0].Ents, "two") })
	with("a name too many", func(v *impl.Vol) { v.Inodes[4].Ents, _ = w.add(v.Inodes[4].Ents, "four", 2) })
	with("an inode lacks", func(v *impl.Vol) { v.Inodes = v.Inodes[:5] })
}

func TestVolOkOfEachWayToBeNotRight(t *testing.T) {
	w := newVolWords(t)
	for why, v := range notRightVols(t, w) {
		wantVolOk(t, why, v, false)
	}
}

func TestVolOkByData(t *testing.T) {
	w := newVolWords(t)
	for length := range 41 {
		for _, at := range []int{0, 1, 2, 5} {
			v := cloneVol(sample(t, w))
			v.Inodes[at].Data = strings.Repeat("\xfe", length)
			wantVolOk(t, "by Data", v, length == 0 || length <= 20 && v.Inodes[at].Kind == 1)
		}
	}
}

func TestVolOkByLinks(t *testing.T) {
	w := newVolWords(t)
	for names := 1; names <= 12; names++ {
		s := newStory(t, w)
		s.file(1, "n0")
		for i := 1; i < names; i++ {
			s.done(linkOf(1, "n0", 1, "n"+strconv.Itoa(i)))
		}
		for links := -1; links <= 14; links++ {
			v := cloneVol(s.v)
			v.Inodes[1].Links = links
			wantVolOk(t, "by Links", v, links == names)
		}
	}
}

func TestVolumesThatAreNotRight(t *testing.T) {
	w := newVolWords(t)
	for why, v := range notRightVols(t, w) {
		for kind := 0; kind <= 9; kind++ {
			for _, c := range []impl.Call{{Kind: kind, Dir: 1, Name: "file"}, {Kind: kind, Dir: 1, Name: "new"}, {Kind: kind, Dir: 1, Name: "two", To: 5, As: "x"}, {Kind: kind}} {
				got, told := impl.VolDo(v, c)
				if !sameVol(got, impl.Vol{}) || told != (impl.Result{Code: impl.VoBad}) {
					t.Errorf("VolDo(%+v) of a volume that is not right (%s) = %+v, %+v", c, why, got, told)
				}
			}
		}
	}
}

func wantCallOk(t *testing.T, c impl.Call, want bool) {
	t.Helper()
	if got := impl.CallOk(c); got != want {
		t.Errorf("CallOk(%+v) = %v", c, got)
	}
}

// fullCall is a call of a kind with all that it names.
func fullCall(kind int) impl.Call {
	c := impl.Call{Kind: kind, Dir: 1, Name: "a"}
	switch kind {
	case impl.CaLink, impl.CaRename:
		c.To, c.As = 2, "b"
	case impl.CaWrite:
		c.Data = "c"
	}
	return c
}

func TestCallOkByKind(t *testing.T) {
	for kind := -3; kind <= 12; kind++ {
		right := 1 <= kind && kind <= 8
		wantCallOk(t, fullCall(kind), right)
		wantCallOk(t, impl.Call{Kind: kind}, right)
	}
	for _, kind := range []int{math.MinInt, -1 << 32, 1<<32 + 1, math.MaxInt} {
		wantCallOk(t, impl.Call{Kind: kind, Dir: 1, Name: "a"}, false)
	}
}

func TestCallOkByNumbers(t *testing.T) {
	for _, n := range []int{math.MinInt, -100000, -1, 0, 1, 2, 99999, 100000, 100001, 1 << 32, 1<<32 + 1, math.MaxInt} {
		right := 0 <= n && n <= 100000
		for kind := 1; kind <= 8; kind++ {
			c := fullCall(kind)
			c.Dir = n
			wantCallOk(t, c, right)
			c = fullCall(kind)
			c.To = n
			wantCallOk(t, c, n == 0 || right && (kind == impl.CaLink || kind == impl.CaRename))
		}
	}
}

func TestCallOkByTexts(t *testing.T) {
	for _, n := range []int{0, 1, 19, 20, 21, 23, 24, 25, 26, 1000} {
		for _, text := range []string{strings.Repeat("a", n), strings.Repeat("\xff", n), strings.Repeat("\x00", n)} {
			for kind := 1; kind <= 8; kind++ {
				two := kind == impl.CaLink || kind == impl.CaRename
				c := fullCall(kind)
				c.Name = text
				wantCallOk(t, c, n <= 24)
				c = fullCall(kind)
				c.As = text
				wantCallOk(t, c, n == 0 || two && n <= 24)
				c = fullCall(kind)
				c.Data = text
				wantCallOk(t, c, n == 0 || kind == impl.CaWrite && n <= 20)
			}
		}
	}
	// The bytes count, not the signs.
	wantCallOk(t, callOf(impl.CaLook, 1, strings.Repeat("\xc3\xa5", 12)), true)
	wantCallOk(t, callOf(impl.CaLook, 1, strings.Repeat("\xc3\xa5", 13)), false)
	// What is no name is asked later.
	for _, bad := range badNames[:14] {
		wantCallOk(t, linkOf(1, bad, 2, bad), true)
	}
}

func TestCallOkByWords(t *testing.T) {
	for kind := range 10 {
		for _, dir := range []int{-1, 0, 7} {
			for _, to := range []int{-1, 0, 7} {
				for _, as := range []string{"", "x", strings.Repeat("x", 25)} {
					for _, data := range []string{"", "y", strings.Repeat("y", 21)} {
						c := impl.Call{Kind: kind, Dir: dir, Name: "n", To: to, As: as, Data: data}
						wantCallOk(t, c, callOkByWords(c))
					}
				}
			}
		}
	}
}

func TestVolDoOfCallsThatAreNotOk(t *testing.T) {
	w := newVolWords(t)
	v := sample(t, w)
	long := strings.Repeat("a", 25)
	for _, c := range []impl.Call{
		{}, {Kind: 9}, {Kind: 9, Dir: 1, Name: "File"}, {Kind: -1, Dir: 1, Name: "File"}, {Kind: 0, Dir: 1, Name: "new"},
		{Kind: impl.CaCreate, Dir: -1, Name: "new"}, {Kind: impl.CaCreate, Dir: 100001, Name: "new"},
		{Kind: impl.CaCreate, Dir: 1, Name: long}, {Kind: impl.CaCreate, Dir: 9, Name: long}, {Kind: impl.CaCreate, Dir: 2, Name: long},
		{Kind: impl.CaCreate, Dir: 1, Name: "new", To: 1}, {Kind: impl.CaCreate, Dir: 1, Name: "new", As: "x"}, {Kind: impl.CaCreate, Dir: 1, Name: "new", Data: "x"},
		{Kind: impl.CaMkdir, Dir: 1, Name: "new", To: 1}, {Kind: impl.CaMkdir, Dir: 1, Name: "new", Data: "x"},
		{Kind: impl.CaUnlink, Dir: 1, Name: "File", Data: "x"}, {Kind: impl.CaRmdir, Dir: 1, Name: "e", As: "x"},
		{Kind: impl.CaLink, Dir: 1, Name: "File", To: -1, As: "x"}, {Kind: impl.CaLink, Dir: 1, Name: "File", To: 100001, As: "x"},
		{Kind: impl.CaLink, Dir: 1, Name: "File", To: 1, As: long}, {Kind: impl.CaLink, Dir: 1, Name: "File", To: 1, As: "x", Data: "x"},
		{Kind: impl.CaRename, Dir: 1, Name: "File", To: 1, As: long}, {Kind: impl.CaRename, Dir: 1, Name: "File", To: 1, As: "x", Data: "x"},
		{Kind: impl.CaWrite, Dir: 1, Name: "File", Data: strings.Repeat("x", 21)}, {Kind: impl.CaWrite, Dir: 1, Name: "File", To: 1}, {Kind: impl.CaWrite, Dir: 1, Name: "File", As: "x"},
		{Kind: impl.CaLook, Dir: 1, Name: "File", To: 1}, {Kind: impl.CaLook, Dir: 1, Name: "File", Data: "hi"},
	} {
		wantDo(t, v, c, v, impl.Result{Code: impl.VoBad})
	}
}

func TestAllKindsAskTheirDirectory(t *testing.T) {
	s := newStory(t, newVolWords(t))
	s.v = sample(t, s.w)
	for kind := 1; kind <= 8; kind++ {
		c := fullCall(kind)
		c.To = min(c.To, 1)
		c.Name = "File"
		for _, dir := range []int{0, 7, 8, 100000} {
			c.Dir = dir
			s.refused(impl.VoNoEnt, c)
		}
		for _, dir := range []int{2, 6} {
			c.Dir = dir
			s.refused(impl.VoNotDir, c)
		}
		for _, bad := range badNames[:14] {
			c.Name = bad
			c.Dir = 1
			s.refused(impl.VoBad, c)
			c.Dir = 2
			s.refused(impl.VoNotDir, c)
			c.Dir = 7
			s.refused(impl.VoNoEnt, c)
		}
	}
}

func TestTwoDirectoriesAreAsked(t *testing.T) {
	s := newStory(t, newVolWords(t))
	s.v = sample(t, s.w)
	for _, kind := range []int{impl.CaLink, impl.CaRename} {
		for _, x := range []struct {
			dir  int
			name string
			to   int
			as   string
			code int
		}{
			{1, "File", 0, "x", impl.VoNoEnt}, {1, "File", 7, "x", impl.VoNoEnt}, {1, "File", 100000, "x", impl.VoNoEnt},
			{7, "File", 1, "x", impl.VoNoEnt}, {7, "File", 7, "x", impl.VoNoEnt}, {2, "File", 7, "x", impl.VoNoEnt}, {7, "File", 2, "x", impl.VoNoEnt},
			{1, "/", 7, "x", impl.VoNoEnt}, {1, "none", 7, "x", impl.VoNoEnt}, {7, "/", 1, "/", impl.VoNoEnt},
			{1, "File", 2, "x", impl.VoNotDir}, {2, "File", 1, "x", impl.VoNotDir}, {2, "File", 6, "x", impl.VoNotDir},
			{1, "/", 6, "x", impl.VoNotDir}, {1, "none", 6, "/", impl.VoNotDir}, {6, "/", 1, "/", impl.VoNotDir},
			{1, "/", 1, "x", impl.VoBad}, {1, "File", 1, "/", impl.VoBad}, {1, "File", 1, "", impl.VoBad}, {1, "", 1, "x", impl.VoBad},
			{1, "none", 1, ".", impl.VoBad}, {1, "..", 1, "none", impl.VoBad}, {1, "d", 3, "/", impl.VoBad}, {1, "File", 1, "\xff", impl.VoBad},
			{1, "none", 1, "File", impl.VoNoEnt}, {1, "none", 3, "x", impl.VoNoEnt}, {3, "File", 1, "x", impl.VoNoEnt},
		} {
			s.refused(x.code, impl.Call{Kind: kind, Dir: x.dir, Name: x.name, To: x.to, As: x.as})
		}
	}
}

func TestCreateAndMkdir(t *testing.T) {
	s := newStory(t, newVolWords(t))
	s.do(callOf(impl.CaCreate, 1, "File"), impl.Result{Id: 2})
	s.do(callOf(impl.CaMkdir, 1, "Dir"), impl.Result{Id: 3})
	s.do(callOf(impl.CaCreate, 3, "FILE"), impl.Result{Id: 4})
	s.do(callOf(impl.CaMkdir, 3, "dir"), impl.Result{Id: 5})
	s.shows("6; 1: Dir=3 File=2; 2 x1 ; 3: FILE=4 dir=5; 4 x1 ; 5:")
	for _, kind := range []int{impl.CaCreate, impl.CaMkdir} {
		for _, name := range []string{"File", "FILE", "file", "Dir", "dIR"} {
			s.refused(impl.VoExist, callOf(kind, 1, name))
		}
	}
	// Ids that went are not given again.
	s.done(callOf(impl.CaRmdir, 3, "DIR"))
	s.done(callOf(impl.CaUnlink, 3, "file"))
	s.do(callOf(impl.CaMkdir, 3, "dir"), impl.Result{Id: 6})
	s.shows("7; 1: Dir=3 File=2; 2 x1 ; 3: dir=6; 6:")
}

func TestCreateOfAnAlikeName(t *testing.T) {
	w := newVolWords(t)
	for _, row := range likeNames {
		for _, kind := range []int{impl.CaCreate, impl.CaMkdir} {
			s := newStory(t, w)
			id := s.made(kind, 1, row[0])
			for _, name := range row {
				s.refused(impl.VoExist, callOf(impl.CaCreate, 1, name))
				s.refused(impl.VoExist, callOf(impl.CaMkdir, 1, name))
				s.do(callOf(impl.CaLook, 1, name), impl.Result{Id: id, Name: row[0]})
			}
		}
	}
}

func TestCreateWhereThereIsNoRoom(t *testing.T) {
	w := newVolWords(t)
	for kind, undo := range map[int]int{impl.CaCreate: impl.CaUnlink, impl.CaMkdir: impl.CaRmdir} {
		full := newStory(t, w)
		full.v = fullDir(t, w)
		full.refused(impl.VoNoSpc, callOf(kind, 1, "new"))
		full.refused(impl.VoExist, callOf(kind, 1, "A3"))
		full.made(kind, 2, "new")
		full.done(callOf(impl.CaUnlink, 1, "a3"))
		full.made(kind, 1, "new")
		full.refused(impl.VoNoSpc, callOf(kind, 1, "a3"))

		crowd := newStory(t, w)
		crowd.v = crowded(t, w, 15)
		crowd.made(kind, 1, "new")
		crowd.refused(impl.VoNoSpc, callOf(kind, 1, "more"))
		crowd.refused(impl.VoNoSpc, callOf(kind, 2, "more"))
		crowd.refused(impl.VoExist, callOf(kind, 1, "NEW"))
		crowd.done(callOf(undo, 1, "new"))
		crowd.made(kind, 2, "more")

		last := newStory(t, w)
		last.v.Next = 99998
		last.do(callOf(kind, 1, "a"), impl.Result{Id: 99998})
		last.do(callOf(kind, 1, "b"), impl.Result{Id: 99999})
		last.refused(impl.VoNoSpc, callOf(kind, 1, "c"))
		last.refused(impl.VoExist, callOf(kind, 1, "B"))
		last.done(callOf(undo, 1, "b"))
		last.refused(impl.VoNoSpc, callOf(kind, 1, "b"))
		last.do(callOf(impl.CaLook, 1, "A"), impl.Result{Id: 99998, Name: "a"})
	}
}

func TestUnlink(t *testing.T) {
	s := newStory(t, newVolWords(t))
	s.v = sample(t, s.w)
	s.refused(impl.VoNoEnt, callOf(impl.CaUnlink, 1, "none"))
	s.refused(impl.VoNoEnt, callOf(impl.CaUnlink, 5, "File"))
	s.refused(impl.VoIsDir, callOf(impl.CaUnlink, 1, "D"))
	s.refused(impl.VoIsDir, callOf(impl.CaUnlink, 1, "e"))
	s.done(callOf(impl.CaUnlink, 1, "FILE"))
	s.shows("8; 1: d=3 e=5 two=2; 2 x2 hi; 3: Deep=4; 4: three=2 \xc3\x85=6; 5:; 6 x1 ")
	s.refused(impl.VoNoEnt, callOf(impl.CaUnlink, 1, "File"))
	s.done(callOf(impl.CaUnlink, 4, "Three"))
	s.shows("8; 1: d=3 e=5 two=2; 2 x1 hi; 3: Deep=4; 4: \xc3\x85=6; 5:; 6 x1 ")
	s.do(callOf(impl.CaLook, 1, "TWO"), impl.Result{Id: 2, Name: "two", Data: "hi"})
	s.done(callOf(impl.CaUnlink, 1, "two"))
	s.shows("8; 1: d=3 e=5; 3: Deep=4; 4: \xc3\x85=6; 5:; 6 x1 ")
	s.done(callOf(impl.CaUnlink, 4, "\xe2\x84\xab"))
	s.shows("8; 1: d=3 e=5; 3: Deep=4; 4:; 5:")
}

func TestRmdir(t *testing.T) {
	s := newStory(t, newVolWords(t))
	s.v = sample(t, s.w)
	s.refused(impl.VoNoEnt, callOf(impl.CaRmdir, 1, "none"))
	s.refused(impl.VoNotDir, callOf(impl.CaRmdir, 1, "file"))
	s.refused(impl.VoNotDir, callOf(impl.CaRmdir, 4, "\xc3\xa5"))
	s.refused(impl.VoNotEmpty, callOf(impl.CaRmdir, 1, "D"))
	s.refused(impl.VoNotEmpty, callOf(impl.CaRmdir, 3, "deep"))
	s.done(callOf(impl.CaRmdir, 1, "E"))
	s.shows("8; 1: File=2 d=3 two=2; 2 x3 hi; 3: Deep=4; 4: three=2 \xc3\x85=6; 6 x1 ")
	s.refused(impl.VoNoEnt, callOf(impl.CaRmdir, 1, "E"))
	s.refused(impl.VoNoEnt, callOf(impl.CaCreate, 5, "x"))
	s.done(callOf(impl.CaUnlink, 4, "three"))
	s.done(callOf(impl.CaUnlink, 4, "\xc3\x85"))
	s.done(callOf(impl.CaRmdir, 3, "DEEP"))
	s.done(callOf(impl.CaRmdir, 1, "d"))
	s.shows("8; 1: File=2 two=2; 2 x2 hi")
}

func TestLink(t *testing.T) {
	s := newStory(t, newVolWords(t))
	s.v = sample(t, s.w)
	s.refused(impl.VoNoEnt, linkOf(1, "none", 1, "x"))
	s.refused(impl.VoNoEnt, linkOf(1, "none", 1, "two"))
	s.refused(impl.VoIsDir, linkOf(1, "d", 5, "x"))
	s.refused(impl.VoIsDir, linkOf(1, "d", 1, "two"))
	s.refused(impl.VoIsDir, linkOf(1, "e", 5, "x"))
	s.refused(impl.VoExist, linkOf(1, "file", 1, "TWO"))
	s.refused(impl.VoExist, linkOf(1, "file", 1, "FILE"))
	s.refused(impl.VoExist, linkOf(1, "file", 1, "D"))
	s.refused(impl.VoExist, linkOf(1, "file", 4, "\xe2\x84\xab"))
	s.done(linkOf(1, "file", 1, "Again"))
	s.done(linkOf(4, "\xe2\x84\xab", 5, "A"))
	s.shows("8; 1: Again=2 File=2 d=3 e=5 two=2; 2 x4 hi; 3: Deep=4; 4: three=2 \xc3\x85=6; 5: A=6; 6 x2 ")
	s.done(writeOf(5, "a", "by another name"))
	s.do(callOf(impl.CaLook, 4, "A\xcc\x8a"), impl.Result{Id: 6, Name: "\xc3\x85", Data: "by another name"})
}

func TestLinkWhereThereIsNoRoom(t *testing.T) {
	s := newStory(t, newVolWords(t))
	s.v = fullDir(t, s.w)
	s.refused(impl.VoNoSpc, linkOf(1, "a", 1, "new"))
	s.refused(impl.VoNoSpc, linkOf(2, "over", 1, "new"))
	s.refused(impl.VoExist, linkOf(2, "over", 1, "A7"))
	s.refused(impl.VoIsDir, linkOf(1, "sub", 1, "new"))
	s.refused(impl.VoNoEnt, linkOf(1, "none", 1, "new"))
	s.done(linkOf(1, "a", 2, "new"))
	s.done(callOf(impl.CaUnlink, 1, "a1"))
	s.done(linkOf(2, "over", 1, "new"))
	s.refused(impl.VoNoSpc, linkOf(2, "over", 1, "newer"))

	// A link takes neither an inode nor an Id.
	crowd := newStory(t, s.w)
	crowd.v = crowded(t, s.w, 16)
	crowd.v.Next = 100000
	name := crowd.v.Inodes[1].Ents[0].Name
	if crowd.v.Inodes[inodeAt(crowd.v, crowd.v.Inodes[1].Ents[0].Id)].Kind == 2 {
		name = crowd.v.Inodes[1].Ents[1].Name
	}
	crowd.done(linkOf(2, name, 1, "new"))
	crowd.done(renameOf(2, name, 1, "newer"))
}

func TestRenameToAnotherSpelling(t *testing.T) {
	w := newVolWords(t)
	for _, row := range likeRows() {
		for _, kind := range []int{impl.CaCreate, impl.CaMkdir} {
			s := newStory(t, w)
			s.dir(1, "beside")
			id := s.made(kind, 1, row[0])
			s.file(1, "behind")
			data := ""
			if kind == impl.CaCreate {
				data = "kept"
				s.done(writeOf(1, row[1], data))
			}
			for _, name := range row {
				for _, as := range row {
					before := cloneVol(s.v)
					s.done(renameOf(1, name, 1, as))
					s.do(callOf(impl.CaLook, 1, name), impl.Result{Id: id, Name: as, Data: data})
					for i, e := range before.Inodes[0].Ents {
						if e.Id == id {
							before.Inodes[0].Ents[i].Name = as
						}
					}
					if !sameVol(before, s.v) {
						t.Errorf("more than the spelling is another: %v, want %v", s.v, before)
					}
				}
			}
		}
	}
}

func TestRenameToAnotherSpellingKeepsItsPlace(t *testing.T) {
	w := newVolWords(t)
	v := impl.Vol{Next: 50, Inodes: []impl.Inode{{Id: 1, Kind: 2, Links: 1}}}
	for i, e := range w.full() {
		v.Inodes = append(v.Inodes, impl.Inode{Id: 2 + i, Kind: 1 + i%2, Links: 1})
		e.Id = 2 + i
		v.Inodes[0].Ents = append(v.Inodes[0].Ents, e)
	}
	wantVolOk(t, "a full one with gaps", v, true)
	for i, e := range v.Inodes[0].Ents {
		want := cloneVol(v)
		want.Inodes[0].Ents[i].Name = strings.ToUpper(e.Name)
		wantDo(t, v, renameOf(1, e.Name, 1, strings.ToUpper(e.Name)), want, impl.Result{})
		wantDo(t, v, renameOf(1, strings.ToUpper(e.Name), 1, e.Name), v, impl.Result{})
	}
}

func TestRenameToASecondNameOfTheFile(t *testing.T) {
	s := newStory(t, newVolWords(t))
	s.v = sample(t, s.w)
	before := s.v
	for _, c := range []impl.Call{
		renameOf(1, "file", 1, "TWO"), renameOf(1, "TWO", 1, "FILE"), renameOf(1, "File", 1, "two"),
		renameOf(1, "file", 4, "THREE"), renameOf(4, "Three", 1, "FILE"), renameOf(4, "three", 1, "tWO"),
	} {
		s.done(c)
		if !sameVol(s.v, before) {
			t.Errorf("%+v: something was done: %s", c, showVol(s.v))
		}
	}
	// The same name in another directory is another entry.
	s.done(linkOf(1, "file", 5, "FILE"))
	s.done(renameOf(1, "file", 5, "fiLE"))
	s.shows("8; 1: File=2 d=3 e=5 two=2; 2 x4 hi; 3: Deep=4; 4: three=2 \xc3\x85=6; 5: FILE=2; 6 x1 ")
}

func TestRenameToAFreeName(t *testing.T) {
	s := newStory(t, newVolWords(t))
	s.v = sample(t, s.w)
	s.refused(impl.VoNoEnt, renameOf(1, "none", 1, "x"))
	s.refused(impl.VoNoEnt, renameOf(1, "none", 1, "file"))
	s.done(renameOf(1, "FILE", 1, "Thing"))
	s.shows("8; 1: Thing=2 d=3 e=5 two=2; 2 x3 hi; 3: Deep=4; 4: three=2 \xc3\x85=6; 5:; 6 x1 ")
	s.done(renameOf(1, "thing", 5, "File"))
	s.shows("8; 1: d=3 e=5 two=2; 2 x3 hi; 3: Deep=4; 4: three=2 \xc3\x85=6; 5: File=2; 6 x1 ")
	s.done(renameOf(5, "file", 3, "FILE"))
	s.done(renameOf(3, "DEEP", 1, "Up"))
	s.shows("8; 1: Up=4 d=3 e=5 two=2; 2 x3 hi; 3: FILE=2; 4: three=2 \xc3\x85=6; 5:; 6 x1 ")
	s.done(renameOf(1, "d", 4, "D"))
	s.done(renameOf(1, "e", 3, "e"))
	s.done(renameOf(1, "up", 1, "DOWN"))
	s.shows("8; 1: DOWN=4 two=2; 2 x3 hi; 3: FILE=2 e=5; 4: D=3 three=2 \xc3\x85=6; 5:; 6 x1 ")
}

func TestRenameTakesTheLeastIndex(t *testing.T) {
	w := newVolWords(t)
	names := w.namesOf(6, 5)
	s := newStory(t, w)
	for _, name := range names[:3] {
		s.file(1, name)
	}
	// The name goes first, so its index is free again.
	s.done(renameOf(1, names[1], 1, names[3]))
	if e, _ := w.look(s.v.Inodes[0].Ents, names[3]); e.Index != 1 || e.Hash != 6 {
		t.Error("not where the other name stood", e)
	}
	s.dir(1, "d")
	s.done(renameOf(1, names[0], 5, names[4]))
	s.done(renameOf(1, names[2], 5, names[0]))
	s.done(renameOf(5, names[0], 1, names[2]))
	if e, _ := w.look(s.v.Inodes[0].Ents, names[2]); e.Index != 0 {
		t.Error("not the least index", e)
	}
}

func TestRenameOntoAnotherFile(t *testing.T) {
	s := newStory(t, newVolWords(t))
	s.v = sample(t, s.w)
	s.file(1, "one") // 8
	s.done(writeOf(1, "one", "1"))
	start := s.v
	s.done(renameOf(1, "ONE", 1, "FILE"))
	s.shows("9; 1: FILE=8 d=3 e=5 two=2; 2 x2 hi; 3: Deep=4; 4: three=2 \xc3\x85=6; 5:; 6 x1 ; 8 x1 1")
	s.done(renameOf(1, "file", 4, "a\xcc\x8a"))
	s.shows("9; 1: d=3 e=5 two=2; 2 x2 hi; 3: Deep=4; 4: a\xcc\x8a=8 three=2; 5:; 8 x1 1")
	s.done(renameOf(1, "two", 4, "\xc3\x85"))
	s.shows("9; 1: d=3 e=5; 2 x2 hi; 3: Deep=4; 4: three=2 \xc3\x85=2; 5:")
	s.v = start
	s.done(renameOf(4, "\xc3\xa5", 1, "Two"))
	s.shows("9; 1: File=2 Two=6 d=3 e=5 one=8; 2 x2 hi; 3: Deep=4; 4: three=2; 5:; 6 x1 ; 8 x1 1")
	s.done(renameOf(4, "three", 1, "ONE"))
	s.shows("9; 1: File=2 ONE=2 Two=6 d=3 e=5; 2 x2 hi; 3: Deep=4; 4:; 5:; 6 x1 ")
	s.done(renameOf(1, "tWO", 1, "fiLE"))
	s.shows("9; 1: ONE=2 d=3 e=5 fiLE=6; 2 x1 hi; 3: Deep=4; 4:; 5:; 6 x1 ")
	s.done(renameOf(1, "file", 1, "one"))
	s.shows("9; 1: d=3 e=5 one=6; 3: Deep=4; 4:; 5:; 6 x1 ")
}

func TestRenameOntoKeepsThePlaceOfTheNameThatStays(t *testing.T) {
	w := newVolWords(t)
	names := w.namesOf(9, 4)
	s := newStory(t, w)
	for _, name := range names {
		s.file(1, name)
	}
	before := slices.Clone(s.v.Inodes[0].Ents)
	s.done(renameOf(1, names[0], 1, strings.ToUpper(names[2])))
	before[2].Name, before[2].Id = strings.ToUpper(names[2]), 2
	if !slices.Equal(s.v.Inodes[0].Ents, before[1:]) {
		t.Error(s.v.Inodes[0].Ents, before[1:])
	}
}

func TestRenameOntoADirectory(t *testing.T) {
	s := newStory(t, newVolWords(t))
	s.v = sample(t, s.w)
	s.dir(1, "f") // 8
	start := s.v
	s.refused(impl.VoIsDir, renameOf(1, "file", 1, "E"))
	s.refused(impl.VoIsDir, renameOf(1, "file", 1, "D"))
	s.refused(impl.VoIsDir, renameOf(1, "file", 3, "deep"))
	s.refused(impl.VoIsDir, renameOf(4, "three", 3, "deep"))
	s.refused(impl.VoNotDir, renameOf(1, "e", 1, "FILE"))
	s.refused(impl.VoNotDir, renameOf(1, "e", 4, "\xe2\x84\xab"))
	s.refused(impl.VoNotDir, renameOf(1, "d", 1, "two"))
	s.refused(impl.VoNotEmpty, renameOf(1, "e", 1, "D"))
	s.refused(impl.VoNotEmpty, renameOf(1, "e", 3, "DEEP"))
	s.refused(impl.VoNotEmpty, renameOf(3, "deep", 1, "D"))
	s.done(renameOf(1, "e", 1, "F"))
	s.shows("9; 1: F=5 File=2 d=3 two=2; 2 x3 hi; 3: Deep=4; 4: three=2 \xc3\x85=6; 5:; 6 x1 ")
	s.v = start
	s.done(renameOf(1, "d", 1, "E"))
	s.shows("9; 1: E=3 File=2 f=8 two=2; 2 x3 hi; 3: Deep=4; 4: three=2 \xc3\x85=6; 6 x1 ; 8:")
	s.done(renameOf(3, "deep", 1, "F"))
	s.shows("9; 1: E=3 F=4 File=2 two=2; 2 x3 hi; 3:; 4: three=2 \xc3\x85=6; 6 x1 ")
	s.done(renameOf(1, "f", 1, "e"))
	s.shows("9; 1: File=2 e=4 two=2; 2 x3 hi; 4: three=2 \xc3\x85=6; 6 x1 ")
}

func TestRenameIntoItself(t *testing.T) {
	s := newStory(t, newVolWords(t))
	s.v = sample(t, s.w)
	s.dir(4, "under") // 8
	for _, as := range []string{"new", "d", "Deep", "three", "\xc3\xa5", "under"} {
		for _, to := range []int{3, 4, 8} {
			s.refused(impl.VoLoop, renameOf(1, "d", to, as))
		}
		for _, to := range []int{4, 8} {
			s.refused(impl.VoLoop, renameOf(3, "deep", to, as))
		}
		s.refused(impl.VoLoop, renameOf(1, "e", 5, as))
		s.refused(impl.VoLoop, renameOf(4, "under", 8, as))
	}
	// A file goes to any directory, a directory up, beside, and where a name of it is.
	s.done(renameOf(4, "under", 5, "under"))
	s.done(renameOf(1, "file", 8, "file"))
	s.done(renameOf(3, "deep", 8, "deep"))
	s.refused(impl.VoLoop, renameOf(1, "e", 4, "e"))
	s.shows("9; 1: d=3 e=5 two=2; 2 x3 hi; 3:; 4: three=2 \xc3\x85=6; 5: under=8; 6 x1 ; 8: deep=4 file=2")
}

func TestRenameAndFullDirectories(t *testing.T) {
	s := newStory(t, newVolWords(t))
	s.v = fullDir(t, s.w)
	start := s.v
	s.refused(impl.VoNoSpc, renameOf(2, "over", 1, "new"))
	s.refused(impl.VoNoSpc, renameOf(2, "in", 1, "new"))
	s.refused(impl.VoNoEnt, renameOf(2, "none", 1, "new"))
	s.refused(impl.VoIsDir, renameOf(2, "over", 1, "LAST"))
	s.refused(impl.VoNotDir, renameOf(2, "in", 1, "A1"))
	s.refused(impl.VoNotEmpty, renameOf(2, "in", 1, "sub"))
	s.shows("7; 1: a0=3 a1=3 a2=3 a3=3 a4=3 a5=3 a6=3 a7=3 a8=3 a=3 last=6 sub=2; 2: in=5 over=4; 3 x10 ; 4 x1 ; 5:; 6:")
	s.done(renameOf(2, "over", 1, "A1"))
	s.done(renameOf(2, "in", 1, "LAST"))
	s.shows("7; 1: A1=4 LAST=5 a0=3 a2=3 a3=3 a4=3 a5=3 a6=3 a7=3 a8=3 a=3 sub=2; 2:; 3 x9 ; 4 x1 ; 5:")
	s.v = start
	for _, e := range start.Inodes[0].Ents {
		s.v = start
		s.done(renameOf(1, e.Name, 1, "new"))
		s.do(callOf(impl.CaLook, 1, "NEW"), impl.Result{Id: e.Id, Name: "new"})
		s.refused(impl.VoNoEnt, callOf(impl.CaLook, 1, e.Name))
		s.done(renameOf(1, "new", 1, "NEW"))
		s.done(renameOf(1, "NEW", 1, e.Name))
	}
	s.v = start
	s.refused(impl.VoLoop, renameOf(1, "sub", 2, "new"))
	s.done(renameOf(1, "a", 2, "new"))
	s.done(renameOf(2, "over", 1, "new"))
}

func TestWriteAndLook(t *testing.T) {
	s := newStory(t, newVolWords(t))
	s.v = sample(t, s.w)
	s.refused(impl.VoNoEnt, writeOf(1, "none", "x"))
	s.refused(impl.VoNoEnt, callOf(impl.CaLook, 1, "none"))
	s.refused(impl.VoIsDir, writeOf(1, "d", "x"))
	s.refused(impl.VoIsDir, writeOf(1, "e", ""))
	s.do(callOf(impl.CaLook, 1, "D"), impl.Result{Id: 3, Name: "d"})
	s.do(callOf(impl.CaLook, 3, "DEEP"), impl.Result{Id: 4, Name: "Deep"})
	for _, data := range []string{"x", strings.Repeat("\x00", 20), "\xff\xfe", "", strings.Repeat("z", 19)} {
		for _, name := range []string{"FILE", "tWo"} {
			s.done(writeOf(1, name, data))
			s.do(callOf(impl.CaLook, 1, "file"), impl.Result{Id: 2, Name: "File", Data: data})
			s.do(callOf(impl.CaLook, 1, "TWO"), impl.Result{Id: 2, Name: "two", Data: data})
			s.do(callOf(impl.CaLook, 4, "tHREE"), impl.Result{Id: 2, Name: "three", Data: data})
			s.done(writeOf(1, name, "between"))
		}
	}
	s.done(writeOf(4, "\xe2\x84\xab", "ring"))
	s.do(callOf(impl.CaLook, 4, "a\xcc\x8a"), impl.Result{Id: 6, Name: "\xc3\x85", Data: "ring"})
	s.shows("8; 1: File=2 d=3 e=5 two=2; 2 x3 between; 3: Deep=4; 4: three=2 \xc3\x85=6; 5:; 6 x1 ring")
}

// callsOn hands over each call of each kind with these numbers and names.
func callsOn(ids []int, names []string, do func(impl.Call)) {
	for kind := range 10 {
		for _, dir := range ids {
			for _, name := range names {
				if kind != impl.CaLink && kind != impl.CaRename {
					do(impl.Call{Kind: kind, Dir: dir, Name: name})
					do(impl.Call{Kind: kind, Dir: dir, Name: name, Data: "new"})
					continue
				}
				for _, to := range ids {
					for _, as := range names {
						do(impl.Call{Kind: kind, Dir: dir, Name: name, To: to, As: as})
					}
				}
			}
		}
	}
}

func TestEachCallByTheWords(t *testing.T) {
	w := newVolWords(t)
	codes := map[[2]int]int{}
	for _, x := range []struct {
		v     impl.Vol
		ids   []int
		names []string
	}{
		{sample(t, w), []int{0, 1, 2, 3, 4, 5, 7}, []string{"FILE", "two", "D", "deep", "e", "three", "a\xcc\x8a", "new", ""}},
		{fullDir(t, w), []int{1, 2, 3, 5, 6, 8}, []string{"a", "A4", "SUB", "last", "over", "in", "new", "/"}},
		{crowded(t, w, 16), []int{1, 2, 3, 4, 6}, []string{"n2", "N3", "n4", "n5", "N8", "n16", "new"}},
	} {
		callsOn(x.ids, x.names, func(c impl.Call) {
			if t.Failed() {
				return
			}
			_, told := w.wantByWords(t, x.v, c)
			codes[[2]int{c.Kind, told.Code}]++
		})
	}
	// Each code that a kind can tell was told.
	for kind, can := range [][]int{{1}, {0, 1, 2, 3, 4, 7}, {0, 1, 2, 3, 4, 7}, {0, 1, 2, 4, 5}, {0, 1, 2, 4, 6}, {0, 1, 2, 3, 4, 5, 7}, {0, 1, 2, 4, 5, 6, 7, 8}, {0, 1, 2, 4, 5}, {0, 1, 2, 4}, {1}} {
		for code := range 9 {
			if told := codes[[2]int{kind, code}] > 0; told != slices.Contains(can, code) {
				t.Errorf("kind %d tells code %d: %v", kind, code, told)
			}
		}
	}
}

// wantNoneLost asks promise 6 without the words: no names are alike, and each inode is led to.
func wantNoneLost(t *testing.T, w volWords, v impl.Vol) {
	t.Helper()
	below := idsBelow(v, 1)
	for _, n := range v.Inodes {
		if n.Id != 1 && !slices.Contains(below, n.Id) {
			t.Errorf("inode %d is lost: %s", n.Id, showVol(v))
		}
		for i, e := range n.Ents {
			if inodeAt(v, e.Id) < 0 {
				t.Errorf("the name %q leads nowhere: %s", e.Name, showVol(v))
			}
			for _, f := range n.Ents[:i] {
				if w.alike(e.Name, f.Name) {
					t.Errorf("%q and %q are alike: %s", e.Name, f.Name, showVol(v))
				}
			}
		}
	}
}

func TestVolumesChangedForLong(t *testing.T) {
	w := newVolWords(t)
	names := append(w.namesOf(3, 4), "FILE", "file", "\xc3\x85", "a\xcc\x8a", "\xe2\x84\xab", "ss", "\xc3\x9f", "d", "D", "")
	for _, name := range w.namesOf(3, 2) {
		names = append(names, strings.ToUpper(name))
	}
	for seed := range 6 {
		s := steady{uint64(seed)}
		v := impl.NewVol()
		if seed == 5 {
			v.Next = 99940
		}
		for range 2500 {
			c := impl.Call{Kind: 1 + s.below(8), Dir: v.Inodes[s.below(len(v.Inodes))].Id, Name: names[s.below(len(names))]}
			if s.below(30) == 0 {
				c.Dir = s.below(v.Next + 2)
			}
			if c.Kind == impl.CaLink || c.Kind == impl.CaRename {
				c.To, c.As = v.Inodes[s.below(len(v.Inodes))].Id, names[s.below(len(names))]
			}
			if c.Kind == impl.CaWrite {
				c.Data = strings.Repeat("w", s.below(22))
			}
			v, _ = w.wantByWords(t, v, c)
			wantNoneLost(t, w, v)
			if t.Failed() {
				return
			}
		}
	}
}

// TestShortCourses goes each way of a few calls on a file with two names, a directory, and one below it.
func TestShortCourses(t *testing.T) {
	w := newVolWords(t)
	s := newStory(t, w)
	s.file(1, "a")
	s.dir(1, "d")
	s.done(linkOf(1, "a", 3, "A"))
	names := []string{"a", "D"}
	var calls []impl.Call
	for _, dir := range []int{1, 3} {
		for _, name := range names {
			calls = append(calls, callOf(impl.CaMkdir, dir, name), callOf(impl.CaUnlink, dir, name), callOf(impl.CaRmdir, dir, name))
			for _, to := range []int{1, 3} {
				for _, as := range append(names, "b") {
					calls = append(calls, linkOf(dir, name, to, as), renameOf(dir, name, to, as))
				}
			}
		}
	}
	var next func(v impl.Vol, left int)
	next = func(v impl.Vol, left int) {
		for _, c := range calls {
			if t.Failed() {
				return
			}
			after, told := w.wantByWords(t, v, c)
			if left > 1 && told.Code == impl.VoOk && !sameVol(after, v) {
				next(after, left-1)
			}
		}
	}
	next(s.v, 3)
}
