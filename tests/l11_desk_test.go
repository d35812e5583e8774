package tests

import (
	"encoding/hex"
	"regexp"
	"slices"
	"strconv"
	"strings"
	"testing"

	"loop.example/g00773/impl"
)

// deskWords answers in the document's words, from what the tests know of machines and names; numbers and words stand here as it has them.
type deskWords struct{ fsWords }

func newDeskWords(t *testing.T) deskWords { return deskWords{newFsWords(t)} }

// partsAt has the parts of a text between the bytes c, one at least.
func partsAt(text string, c byte) []string {
	var out []string
	from := 0
	for i := 0; i < len(text); i++ {
		if text[i] == c {
			out = append(out, text[from:i])
			from = i + 1
		}
	}
	return append(out, text[from:])
}

// linesOf has all lines, those without a byte too.
func linesOf(text string) []string {
	l := partsAt(text, 10)
	if l[len(l)-1] == "" {
		return l[:len(l)-1]
	}
	return l
}

var decimal = regexp.MustCompile(`^(0|-?[1-9][0-9]{0,8})$`)

func decByWords(word string) (int, bool) {
	if !decimal.MatchString(word) {
		return 0, false
	}
	n, err := strconv.Atoi(word)
	return n, err == nil
}

func unhexByWords(word string) (string, bool) {
	text, err := hex.DecodeString(word)
	return string(text), err == nil && hexOf(string(text)) == word
}

func hexOf(s string) string { return hex.EncodeToString([]byte(s)) }

func joined(l []string) string { return strings.Join(l, " ") }

// A deskForm has a sign for each word behind the command: n a number, w a NAME, x a HEX; and what the command does.
type deskForm struct {
	words string
	act   int
	call  int
}

var deskForms = map[string]deskForm{
	"create": {"nw", 1, 1}, "mkdir": {"nw", 1, 2}, "unlink": {"nw", 1, 3}, "rmdir": {"nw", 1, 4},
	"link": {"nwnw", 1, 5}, "rename": {"nwnw", 1, 6}, "write": {"nwx", 1, 7}, "look": {"nw", 1, 8},
	"list": {"n", 0, 0}, "sync": {"", 2, 0}, "step": {"", 3, 0}, "crash": {"n", 4, 0}, "mount": {"", 5, 0},
	"same": {"ww", 0, 0}, "truth": {"", 0, 0},
}

// deskRead has what stands in a line, by kinds.
type deskRead struct {
	numbers []int
	names   []string
	data    string
}

func (r deskRead) call(kind int) impl.Call {
	c := impl.Call{Kind: kind, Dir: r.numbers[0], Name: r.names[0], Data: r.data}
	if len(r.names) == 2 {
		c.To, c.As = r.numbers[1], r.names[1]
	}
	return c
}

func readByForm(form string, words []string) (deskRead, bool) {
	var r deskRead
	if len(words) != len(form) {
		return r, false
	}
	for i, word := range words {
		switch form[i] {
		case 'n':
			n, ok := decByWords(word)
			if !ok {
				return r, false
			}
			r.numbers = append(r.numbers, n)
		case 'w':
			r.names = append(r.names, word)
		case 'x':
			data, ok := unhexByWords(word)
			if !ok {
				return r, false
			}
			r.data = data
		}
	}
	return r, true
}

// answer is that to a line that has a byte.
func (w deskWords) answer(f *impl.Fs, line string) string {
	words := partsAt(line, 32)
	form, there := deskForms[words[0]]
	if !there {
		return "what"
	}
	r, fits := readByForm(form.words, words[1:])
	if !fits {
		return "what"
	}
	yes := func(is bool) string { return map[bool]string{true: "yes", false: "no"}[is] }
	switch words[0] {
	case "list":
		return w.list(*f, r.numbers[0])
	case "same":
		return yes(w.alike(r.names[0], r.names[1]))
	case "truth":
		return yes(w.isTrue(*f))
	}
	a := impl.Act{Kind: form.act}
	switch {
	case form.call > 0:
		a.Call = r.call(form.call)
	case words[0] == "crash":
		a.N = r.numbers[0]
	}
	after, told, code := w.act(*f, a)
	*f = after
	return w.told(words[0], told, code)
}

func (w deskWords) list(f impl.Fs, dir int) string {
	at := inodeAt(f.Mem, dir)
	if !f.Up || at < 0 || f.Mem.Inodes[at].Kind != 2 {
		return "none"
	}
	var names []string
	for _, e := range f.Mem.Inodes[at].Ents {
		names = append(names, hexOf(e.Name))
	}
	return joined(names)
}

func (w deskWords) told(command string, told impl.Result, code int) string {
	id := strconv.Itoa(told.Id)
	switch {
	case deskForms[command].call == 0:
		return strconv.Itoa(code)
	case code == 2:
		return "down"
	case told.Code != 0:
		return strconv.Itoa(told.Code)
	case command == "create" || command == "mkdir":
		return "0 " + id
	case command == "look":
		return "0 " + id + " " + hexOf(told.Name) + " " + hexOf(told.Data)
	}
	return "0"
}

func (w deskWords) desk(text string) string {
	lines := linesOf(text)
	if len(text) > 20000 || len(lines) > 120 {
		return ""
	}
	f, out := newFsByWords(), ""
	for _, line := range lines {
		if line != "" {
			out += w.answer(&f, line) + "\n"
		}
	}
	return out
}

// wantDesk asks an answer of Desk, twice, and that what was given is left and not shared.
func wantDesk(t *testing.T, why, text, want string) {
	t.Helper()
	given, bytes := loose(text)
	got := impl.Desk(given)
	if got != want {
		t.Errorf("Desk of %s (%s)\n is   %s\n want %s", shortened(text), why, shortened(got), shortened(want))
		return
	}
	if given != text {
		t.Errorf("Desk of %s (%s): what it was given is changed", shortened(text), why)
	}
	if again := impl.Desk(text); again != want {
		t.Errorf("Desk of %s (%s) is %s the second time", shortened(text), why, shortened(again))
	}
	overwrite([][]byte{bytes})
	if got != want {
		t.Errorf("Desk of %s (%s): the answer shares bytes with what was given", shortened(text), why)
	}
}

// wantDeskByWords asks an answer as the words have it, which is the one that it tells.
func (w deskWords) wantDeskByWords(t *testing.T, why, text string) string {
	t.Helper()
	want := w.desk(text)
	wantDesk(t, why, text, want)
	return want
}

// A talk is lines that have a byte, each with its answer.
type talk [][2]string

func (l talk) text() string {
	out := ""
	for _, x := range l {
		out += x[0] + "\n"
	}
	return out
}

func (l talk) answers() string {
	out := ""
	for _, x := range l {
		out += x[1] + "\n"
	}
	return out
}

// wantTalk asks a talk that was written by hand, as it is and by the words, without its last byte 10, and with lines without a byte in it.
func wantTalk(t *testing.T, why string, l talk) {
	t.Helper()
	w := newDeskWords(t)
	text, want := l.text(), l.answers()
	if len(linesOf(text)) != len(l) || len(l) > 120 || len(text) > 20000 {
		t.Fatalf("%s: %d lines of %d bytes are no talk", why, len(l), len(text))
	}
	for i, answer := range linesOf(impl.Desk(text)) {
		if i < len(l) && answer != l[i][1] {
			t.Errorf("%s: line %d, %q, is answered by %q, want %q", why, i, l[i][0], answer, l[i][1])
			return
		}
	}
	if words := w.desk(text); words != want {
		t.Errorf("%s: by the words it is %q, by hand %q", why, words, want)
		return
	}
	wantDesk(t, why, text, want)
	wantDesk(t, why+", without the last byte 10", text[:len(text)-1], want)
	if 2*len(l)+1 <= 120 {
		wantDesk(t, why+", with lines without a byte", "\n"+strings.ReplaceAll(text, "\n", "\n\n"), want)
	}
}

// repeated has one answer to many lines.
func repeated(answer string, lines ...string) talk {
	var out talk
	for _, line := range lines {
		out = append(out, [2]string{line, answer})
	}
	return out
}

// deskLines has a line of each command that is done, of a machine with a file n and an empty directory d (inode 3).
func deskLines() []string {
	return []string{
		"create 1 new", "mkdir 1 new", "unlink 1 n", "rmdir 1 d", "link 1 n 3 m", "rename 1 n 3 m", "write 1 n 6869", "look 1 n",
		"list 1", "sync", "step", "mount", "crash 1", "same n N", "truth",
	}
}

func deskStart() talk { return talk{{"create 1 n", "0 2"}, {"mkdir 1 d", "0 3"}} }

func TestDeskConstants(t *testing.T) {
	if impl.MaxText != 20000 || impl.MaxLines != 120 {
		t.Error(impl.MaxText, impl.MaxLines)
	}
}

func TestDeskOfNoLineThatHasAByte(t *testing.T) {
	wantDesk(t, "no bytes", "", "")
	for count := range 122 {
		wantDesk(t, "only bytes 10", strings.Repeat("\n", count), "")
	}
}

func TestDeskOfTheLastLine(t *testing.T) {
	for line, answer := range map[string]string{
		"truth": "yes", "list 1": "", "create 1 a": "0 2", "hello": "what", " ": "what", "same a ": "no", "sync": "0", "list 2": "none", "x": "what", "\r": "what", "\x00": "what",
	} {
		wantDesk(t, "without its byte 10", line, answer+"\n")
		wantDesk(t, "with its byte 10", line+"\n", answer+"\n")
		wantDesk(t, "with a line without a byte behind it", line+"\n\n", answer+"\n")
		wantDesk(t, "with a line without a byte ahead", "\n"+line, answer+"\n")
		wantDesk(t, "behind another line", "step\n"+line, "2\n"+answer+"\n")
		wantDesk(t, "behind another line, with its byte 10", "step\n"+line+"\n", "2\n"+answer+"\n")
	}
}

func TestDeskPassesOverLinesWithoutAByte(t *testing.T) {
	wantDesk(t, "among others", "\n\ncreate 1 a\n\n\nlist 1\n\nlook 1 A\n\n\n", "0 2\n61\n0 2 61 \n")
	// A blank is a byte, and so is a byte 13 or 0: such a line is answered.
	wantDesk(t, "lines of one byte", "\n \n\r\n\t\n\x00\n\v\n\n", strings.Repeat("what\n", 5))
	wantDesk(t, "an answer without bytes stays a line", "list 1\n\nlist 1\n", "\n\n")
}

func TestDeskByHowManyBytes(t *testing.T) {
	w := newDeskWords(t)
	for _, size := range []int{19998, 19999, 20000, 20001, 20002, 30000, 1 << 20} {
		full := func(head, fill, tail string) string {
			return head + strings.Repeat(fill, size-len(head)-len(tail)) + tail
		}
		for why, x := range map[string][2]string{
			"a long NAME":                   {full("truth\nsame a ", "a", ""), "yes\nno\n"},
			"a long NAME, with its byte 10": {full("truth\nsame a ", "a", "\n"), "yes\nno\n"},
			"a long command":                {full("", "x", ""), "what\n"},
			"only blanks":                   {full("", " ", ""), "what\n"},
			"blanks behind a command":       {full("list 1", " ", ""), "what\n"},
			"a long number":                 {full("list ", "1", ""), "what\n"},
			"a number with noughts":         {full("list ", "0", ""), "what\n"},
			"a long HEX":                    {full("create 1 a\nwrite 1 a ", "6", "\nlook 1 a"), "0 2\n" + map[bool]string{true: "1", false: "what"}[size%2 == 0] + "\n0 2 61 \n"},
			"a NAME that is called for":     {full("create 1 ", "n", "\nlist 1"), "1\n\n"},
			"lines behind a long one":       {full("x", "x", "\ncreate 1 a\nlook 1 A\n"), "what\n0 2\n0 2 61 \n"},
			"bytes that are no signs":       {full("create 1 ", "\xff", "\nlist 1"), "1\n\n"},
		} {
			want := x[1]
			if size > 20000 {
				want = ""
			}
			if len(x[0]) != size || w.desk(x[0]) != want {
				t.Errorf("%s: %d bytes; %q by the words", why, len(x[0]), w.desk(x[0]))
			}
			wantDesk(t, why+", "+strconv.Itoa(size)+" bytes", x[0], want)
		}
	}
	// Both limits met exactly.
	text := strings.Repeat("truth\n", 119) + "same a "
	text += strings.Repeat("a", 20000-len(text))
	wantDesk(t, "MaxText bytes in MaxLines lines", text, strings.Repeat("yes\n", 119)+"no\n")
	wantDesk(t, "one byte 10 more", text+"\n", "")
	wantDesk(t, "MaxText bytes 10", strings.Repeat("\n", 20000), "")
}

func TestDeskByHowManyLines(t *testing.T) {
	for _, count := range []int{1, 2, 119, 120, 121, 122, 240, 1000} {
		want := ""
		if count <= 120 {
			want = strings.Repeat("yes\n", count)
		}
		all := strings.Repeat("truth\n", count)
		wantDesk(t, strconv.Itoa(count)+" lines", all, want)
		wantDesk(t, strconv.Itoa(count)+" lines, without the last byte 10", all[:len(all)-1], want)
		want = strings.ReplaceAll(want, "yes", "what")
		wantDesk(t, strconv.Itoa(count)+" lines of a blank", strings.Repeat(" \n", count), want)
	}
	// One line that has a byte, in each place among those that have none: they are counted.
	for _, count := range []int{119, 120, 121, 122} {
		want := ""
		if count <= 120 {
			want = "yes\n"
		}
		for at := range count {
			text := strings.Repeat("\n", at) + "truth\n" + strings.Repeat("\n", count-1-at)
			wantDesk(t, "line "+strconv.Itoa(at)+" of "+strconv.Itoa(count), text, want)
		}
		wantDesk(t, "the last of "+strconv.Itoa(count)+", without its byte 10", strings.Repeat("\n", count-1)+"truth", want)
	}
	wantDesk(t, "every other one of 120", strings.Repeat("\ntruth\n", 60), strings.Repeat("yes\n", 60))
	wantDesk(t, "every other one of 121", strings.Repeat("\ntruth\n", 60)+"\n", "")
	wantDesk(t, "every other one of 121, the last one without its byte 10", strings.Repeat("truth\n\n", 60)+"x", "")
}

func TestDeskCreateAndMkdir(t *testing.T) {
	long := strings.Repeat("n", 24)
	wantTalk(t, "each answer", talk{
		{"create 1 File", "0 2"}, {"mkdir 1 Dir", "0 3"}, {"create 3 File", "0 4"}, {"mkdir 3 Dir", "0 5"},
		{"create 1 FILE", "3"}, {"mkdir 1 file", "3"}, {"create 1 dIR", "3"}, {"mkdir 1 DIR", "3"},
		{"create 0 a", "2"}, {"mkdir 9 a", "2"}, {"create 100000 a", "2"}, {"create 2 a", "4"}, {"mkdir 4 a", "4"},
		{"create 1 .", "1"}, {"mkdir 1 ..", "1"}, {"create 1 a/b", "1"}, {"mkdir 1 \xff", "1"}, {"create 1 a\tb", "1"}, {"create 1 a\r", "1"}, {"create 1 \x00", "1"}, {"create 1 \xc4\x80", "1"},
		{"create 1 " + long, "0 6"}, {"mkdir 1 " + long + "n", "1"}, {"mkdir 3 " + strings.Repeat("\xc3\x85", 12), "0 7"}, {"create 1 create", "0 8"}, {"create 1 7", "0 9"},
		{"look 1 7", "0 9 37 "}, {"look 1 CREATE", "0 8 637265617465 "}, {"look 1 dir", "0 3 446972 "},
		{"crash 0", "0"}, {"create 1 b", "down"}, {"mkdir 1 b", "down"}, {"create 9 b", "down"}, {"mkdir 1 .", "down"}, {"create 999999999 b", "down"},
	})
	var full talk
	for i := range 12 {
		full = append(full, [2]string{"create 1 f" + strconv.Itoa(i), "0 " + strconv.Itoa(2+i)})
	}
	wantTalk(t, "MaxEnts entries", append(full, talk{{"create 1 g", "7"}, {"mkdir 1 g", "7"}, {"link 1 f0 1 g", "7"}, {"create 1 F0", "3"}, {"unlink 1 f0", "0"}, {"mkdir 1 d", "0 14"}, {"create 14 g", "0 15"}, {"rename 14 G 1 G", "7"}, {"rename 14 g 1 F3", "0"}}...))
	var many talk
	for i := range 8 {
		many = append(many, [2]string{"create 1 f" + strconv.Itoa(i), "0 " + strconv.Itoa(2+i)})
	}
	many = append(many, [2]string{"mkdir 1 d", "0 10"})
	for i := range 6 {
		many = append(many, [2]string{"mkdir 10 d" + strconv.Itoa(i), "0 " + strconv.Itoa(11+i)})
	}
	wantTalk(t, "MaxInodes inodes", append(many, talk{{"create 11 g", "7"}, {"mkdir 1 g", "7"}, {"rmdir 10 d0", "0"}, {"create 12 g", "0 17"}, {"create 12 h", "7"}}...))
}

func TestDeskUnlinkAndRmdir(t *testing.T) {
	wantTalk(t, "each answer", talk{
		{"create 1 f", "0 2"}, {"mkdir 1 d", "0 3"}, {"create 3 g", "0 4"},
		{"unlink 1 none", "2"}, {"rmdir 1 none", "2"}, {"unlink 9 f", "2"}, {"rmdir 0 d", "2"},
		{"unlink 2 f", "4"}, {"rmdir 2 d", "4"}, {"rmdir 1 f", "4"}, {"unlink 1 D", "5"}, {"rmdir 1 d", "6"},
		{"unlink 1 .", "1"}, {"rmdir 1 ..", "1"}, {"rmdir 100001 d", "1"}, {"unlink -1 f", "1"},
		{"unlink 3 G", "0"}, {"unlink 3 G", "2"}, {"rmdir 1 D", "0"}, {"rmdir 1 D", "2"}, {"list 3", "none"}, {"list 1", "66"},
		{"unlink 1 F", "0"}, {"list 1", ""}, {"create 1 f", "0 5"}, {"crash 7", "0"}, {"unlink 1 f", "down"}, {"rmdir 1 f", "down"}, {"rmdir 1 .", "down"},
	})
}

func TestDeskLinkAndRename(t *testing.T) {
	wantTalk(t, "link", talk{
		{"create 1 f", "0 2"}, {"mkdir 1 d", "0 3"}, {"link 1 F 3 g", "0"}, {"link 3 G 1 h", "0"}, {"write 1 f 6869", "0"}, {"look 3 g", "0 2 67 6869"}, {"look 1 H", "0 2 68 6869"},
		{"link 1 none 1 x", "2"}, {"link 9 f 1 x", "2"}, {"link 1 f 9 x", "2"}, {"link 1 f 1 F", "3"}, {"link 1 f 1 H", "3"}, {"link 2 f 1 x", "4"}, {"link 1 f 2 x", "4"}, {"link 1 d 1 x", "5"},
		{"link 1 . 1 x", "1"}, {"link 1 f 1 ..", "1"}, {"link 1 f 100001 x", "1"}, {"link 1 f -1 x", "1"},
		{"crash 0", "0"}, {"link 1 f 1 x", "down"}, {"link 1 . 1 x", "down"},
	})
	wantTalk(t, "rename", talk{
		{"create 1 f", "0 2"}, {"mkdir 1 d", "0 3"}, {"mkdir 3 e", "0 4"}, {"create 3 g", "0 5"},
		{"rename 1 F 1 F", "0"}, {"look 1 f", "0 2 46 "}, {"rename 1 f 1 ff", "0"}, {"look 1 FF", "0 2 6666 "}, {"look 1 f", "2"},
		{"rename 1 none 1 x", "2"}, {"rename 0 ff 1 x", "2"}, {"rename 1 ff 9 x", "2"}, {"rename 2 ff 1 x", "4"}, {"rename 1 ff 2 x", "4"},
		{"rename 1 ff 1 D", "5"}, {"rename 3 e 3 G", "4"}, {"rename 1 d 3 x", "8"}, {"rename 1 d 4 x", "8"}, {"mkdir 4 x", "0 6"}, {"mkdir 1 y", "0 7"}, {"rename 1 y 3 E", "6"},
		{"rename 1 ff 1 .", "1"}, {"rename 1 . 1 ff", "1"}, {"rename 1 ff 100001 x", "1"},
		{"rename 1 FF 3 G", "0"}, {"look 3 g", "0 2 47 "}, {"list 1", "79 64"},
		{"crash 0", "0"}, {"rename 1 y 1 z", "down"}, {"rename 1 y 1 ..", "down"},
	})
}

func TestDeskWriteAndLook(t *testing.T) {
	wantTalk(t, "each answer", talk{
		{"create 1 f", "0 2"}, {"mkdir 1 d", "0 3"}, {"look 1 f", "0 2 66 "}, {"write 1 F 00ff0a20", "0"}, {"look 1 F", "0 2 66 00ff0a20"},
		{"write 1 f " + strings.Repeat("0a", 20), "0"}, {"look 1 f", "0 2 66 " + strings.Repeat("0a", 20)}, {"write 1 f " + strings.Repeat("61", 21), "1"}, {"look 1 f", "0 2 66 " + strings.Repeat("0a", 20)},
		{"write 1 none 61", "2"}, {"write 9 f 61", "2"}, {"write 2 f 61", "4"}, {"write 1 d 61", "5"}, {"write 1 . 61", "1"}, {"write 100001 f 61", "1"},
		{"look 1 none", "2"}, {"look 9 f", "2"}, {"look 2 f", "4"}, {"look 1 ..", "1"}, {"look -1 f", "1"}, {"look 1 D", "0 3 64 "},
		{"write 1 f ", "0"}, {"look 1 f", "0 2 66 "}, {"write 1 f 6", "what"}, {"crash 1", "0"},
		{"write 1 f 61", "down"}, {"look 1 f", "down"}, {"write 1 f " + strings.Repeat("61", 21), "down"}, {"look 1 .", "down"}, {"write 1 f 6", "what"},
	})
}

func TestDeskLookByAnotherSpelling(t *testing.T) {
	for _, x := range []struct{ as, hex, by string }{
		{"\xe2\x84\xab", "e284ab", "\xc3\x85 \xc3\xa5 A\xcc\x8a a\xcc\x8a \xe2\x84\xab"},
		{"\xc3\x9f", "c39f", "ss SS sS \xc3\x9f"},
		{"\xe1\xba\xac", "e1baac", "a\xcc\xa3\xcc\x82 a\xcc\x82\xcc\xa3 A\xcc\x82\xcc\xa3 \xe1\xba\xad \xe1\xba\xa1\xcc\x82"},
		{"\xea\xb0\x81", "eab081", "\xe1\x84\x80\xe1\x85\xa1\xe1\x86\xa8"},
		{"\xe2\x84\xa6", "e284a6", "\xce\xa9 \xcf\x89"},
		{"ReadMe.TXT", "526561644d652e545854", "readme.txt README.TXT rEADmE.txt"},
	} {
		l := talk{{"create 1 " + x.as, "0 2"}, {"write 1 " + x.as + " 6869", "0"}}
		for _, by := range partsAt(x.by, 32) {
			l = append(l, talk{{"look 1 " + by, "0 2 " + x.hex + " 6869"}, {"same " + by + " " + x.as, "yes"}, {"create 1 " + by, "3"}, {"list 1", x.hex}}...)
		}
		last := partsAt(x.by, 32)[0]
		l = append(l, talk{{"rename 1 " + last + " 1 " + last, "0"}, {"look 1 " + x.as, "0 2 " + hexOf(last) + " 6869"}, {"list 1", hexOf(last)}, {"unlink 1 " + x.as, "0"}, {"look 1 " + last, "2"}, {"list 1", ""}}...)
		wantTalk(t, "spellings of "+x.hex, l)
	}
}

func TestDeskList(t *testing.T) {
	wantTalk(t, "each answer", talk{
		{"list 1", ""}, {"list 2", "none"}, {"create 1 f", "0 2"}, {"list 1", "66"}, {"list 2", "none"}, {"mkdir 1 D", "0 3"}, {"list 3", ""},
		{"create 3 \xc3\x85", "0 4"}, {"list 3", "c385"}, {"list 4", "none"}, {"list 5", "none"}, {"list 0", "none"}, {"list -1", "none"}, {"list 999999999", "none"}, {"list 100001", "none"},
		{"sync", "0"}, {"list 3", "c385"}, {"step", "0"}, {"list 3", "c385"}, {"step", "0"}, {"step", "0"}, {"step", "0"}, {"list 1", "66 44"},
		{"crash 0", "0"}, {"list 1", "none"}, {"list 3", "none"}, {"list 9", "none"}, {"mount", "0"}, {"list 1", "none"}, {"list 3", "none"}, {"step", "0"}, {"list 1", "66 44"}, {"list 3", "c385"}, {"list 2", "none"},
	})
}

// TestDeskListsInOrder asks for the order of Hash and Index, which is neither that of the names nor that of their making.
func TestDeskListsInOrder(t *testing.T) {
	w := newDeskWords(t)
	names := []string{"kilo", "Alpha", "\xc3\xa9", "zulu", "e2", "B", "\xd0\x96", "c", "0", "mike", "~", "\xea\xb0\x80"}
	var l talk
	var d []impl.Ent
	for i, name := range names {
		d, _ = w.add(d, name, 2+i)
		var all []string
		for _, e := range d {
			all = append(all, hexOf(e.Name))
		}
		l = append(l, talk{{"create 1 " + name, "0 " + strconv.Itoa(2+i)}, {"list 1", joined(all)}}...)
	}
	wantTalk(t, "twelve names", l)
	// Those of one Hash stand by their Index, and what is made again takes the least one.
	same := w.namesOf(3, 3)
	a, b, c := same[0], same[1], same[2]
	wantTalk(t, "three of one Hash", talk{
		{"create 1 " + c, "0 2"}, {"create 1 " + a, "0 3"}, {"create 1 " + b, "0 4"}, {"list 1", joined([]string{hexOf(c), hexOf(a), hexOf(b)})},
		{"unlink 1 " + c, "0"}, {"list 1", joined([]string{hexOf(a), hexOf(b)})}, {"create 1 " + c, "0 5"}, {"list 1", joined([]string{hexOf(c), hexOf(a), hexOf(b)})},
		{"unlink 1 " + a, "0"}, {"rename 1 " + c + " 1 " + a, "0"}, {"list 1", joined([]string{hexOf(a), hexOf(b)})},
	})
}

func TestDeskSameAndTruth(t *testing.T) {
	wantTalk(t, "each answer", talk{
		{"same a A", "yes"}, {"same a b", "no"}, {"same \xc3\x9f SS", "yes"}, {"same \xe2\x84\xab a\xcc\x8a", "yes"}, {"same a a", "yes"}, {"same . .", "no"}, {"same a/ a/", "no"}, {"same \xff \xff", "no"},
		{"same " + strings.Repeat("a", 24) + " " + strings.Repeat("A", 24), "yes"}, {"same " + strings.Repeat("a", 25) + " " + strings.Repeat("a", 25), "no"}, {"same 1 1", "yes"},
		{"truth", "yes"}, {"create 1 a", "0 2"}, {"truth", "yes"}, {"sync", "0"}, {"truth", "yes"}, {"step", "0"}, {"truth", "yes"}, {"write 1 a 61", "0"}, {"truth", "yes"},
		{"crash 1", "0"}, {"truth", "yes"}, {"same a A", "yes"}, {"same a b", "no"}, {"mount", "0"}, {"truth", "yes"}, {"same a A", "yes"}, {"step", "0"}, {"truth", "yes"},
	})
}

// TestDeskActs asks each code of each act, at each step of a sync and of a mount.
func TestDeskActs(t *testing.T) {
	idle := talk{{"step", "2"}, {"mount", "2"}}
	syncing := talk{{"sync", "2"}, {"mount", "2"}}
	downs := talk{{"sync", "2"}, {"step", "2"}, {"crash 0", "2"}, {"crash 1", "2"}}
	mounting := talk{{"sync", "2"}, {"mount", "2"}}
	wantTalk(t, "each code", slices.Concat(
		idle, talk{{"sync", "0"}}, idle, talk{{"create 1 a", "0 2"}}, idle, talk{{"sync", "0"}}, syncing,
		talk{{"step", "0"}}, syncing, talk{{"step", "0"}}, syncing, talk{{"step", "0"}}, syncing, talk{{"step", "0"}}, idle,
		talk{{"sync", "0"}}, idle, talk{{"crash 0", "0"}}, downs, talk{{"mount", "0"}}, mounting, talk{{"crash 5", "0"}}, downs, talk{{"mount", "0"}}, mounting, talk{{"step", "0"}}, idle,
		talk{{"look 1 a", "0 2 61 "}, {"truth", "yes"}},
	))
}

// TestDeskOfAsManyCallsAsThereAreLines has no line that finds MaxCalls Calls ahead of it.
func TestDeskOfAsManyCallsAsThereAreLines(t *testing.T) {
	var l talk
	for i, c := range manyCalls(120) {
		l = append(l, [2]string{lineOfAct(callAct(c)), map[bool]string{true: "0 2", false: "0"}[i == 0]})
	}
	wantTalk(t, "each changes something", l)
}

// TestDeskDown asks each command of a machine that fell, and of one that mounts.
func TestDeskDown(t *testing.T) {
	calls := repeated("down", "create 1 new", "mkdir 1 new", "unlink 1 n", "rmdir 1 d", "link 1 n 3 m", "rename 1 n 3 m", "write 1 n 6869", "look 1 n", "look 9 none", "create 1 ", "write 1 n ")
	others := append(repeated("what", "create x n", "create 1", "write 1 n z", "look", "list x", "list", "link 1 n m", "crash x", "crash", " "), repeated("none", "list 1", "list 3", "list 2", "list 9")...)
	others = append(others, talk{{"same n N", "yes"}, {"same n m", "no"}, {"truth", "yes"}, {"sync", "2"}}...)
	saved := append(deskStart(), repeated("0", "sync", "step", "step", "step", "step", "crash 0")...)
	wantTalk(t, "down", slices.Concat(saved, calls, others, talk{{"step", "2"}, {"crash 1", "2"}, {"mount", "0"}, {"step", "0"}, {"look 1 n", "0 2 6e "}, {"list 3", ""}}))
	wantTalk(t, "mounting", slices.Concat(saved, talk{{"mount", "0"}}, calls, others, talk{{"mount", "2"}, {"step", "0"}, {"look 1 n", "0 2 6e "}, {"list 3", ""}}))
}

// TestDeskWordsWithoutBytes has them as a command, as a NAME, as a number and as HEX.
func TestDeskWordsWithoutBytes(t *testing.T) {
	wantTalk(t, "as a NAME", slices.Concat(deskStart(), repeated("1",
		"create 1 ", "mkdir 1 ", "unlink 1 ", "rmdir 1 ", "link 1  1 m", "link 1 n 1 ", "link 1  1 ", "rename 1  1 m", "rename 1 n 1 ", "rename 1  1 ", "write 1  6869", "write 1  ", "look 1 "),
		repeated("2", "create 9 ", "look 0 ", "write 9  ", "link 9  1 m", "link 1  9 "), repeated("4", "create 2 ", "look 2 ", "write 2  61", "rename 1  2 "), repeated("1", "look 100001 ", "create -1 "),
		repeated("no", "same  ", "same a ", "same  a", "same  A"), talk{{"list 1", "6e 64"}, {"list 3", ""}}))
	wantTalk(t, "as a number", slices.Concat(deskStart(), repeated("what",
		"create  n", "mkdir  n", "unlink  n", "rmdir  d", "link  n 1 m", "link 1 n  m", "rename  n 1 m", "rename 1 n  m", "write  n 61", "look  n", "list ", "crash ", "create  ", "look  ", "write   ", "link    ", "rename 1 n  "),
		talk{{"list 1", "6e 64"}, {"look 1 n", "0 2 6e "}}))
	wantTalk(t, "as HEX", slices.Concat(deskStart(), talk{
		{"write 1 n 6869", "0"}, {"look 1 n", "0 2 6e 6869"}, {"write 1 N ", "0"}, {"look 1 n", "0 2 6e "}, {"write 1 d ", "5"}, {"write 1 none ", "2"}, {"write 1 n  ", "what"}, {"write 1 n  6869", "what"}, {"look 1 n", "0 2 6e "},
	}))
	wantTalk(t, "as a command", repeated("what", " ", "  ", "   ", " sync", "  sync", " create 1 a", " truth", " list 1", " same a a", " crash 1", strings.Repeat(" ", 40)))
	// One blank more, at the beginning, at the end, or beside each blank that stands there.
	for _, line := range deskLines() {
		l := deskStart()
		for i := range len(line) + 1 {
			if i == 0 || i == len(line) || line[i] == ' ' {
				l = append(l, [2]string{line[:i] + " " + line[i:], "what"})
			}
		}
		wantTalk(t, "a blank more in "+line, append(l, talk{{"list 1", "6e 64"}, {"list 3", ""}, {"look 1 n", "0 2 6e "}, {"step", "2"}, {"mount", "2"}}...))
	}
}

// TestDeskWordsTooManyAndTooFew asks that nothing is done by such a line.
func TestDeskWordsTooManyAndTooFew(t *testing.T) {
	as := talk{{"list 1", "6e 64"}, {"list 3", ""}, {"look 1 n", "0 2 6e "}, {"step", "2"}, {"mount", "2"}}
	for _, line := range deskLines() {
		words := partsAt(line, 32)
		l := deskStart()
		for i := range words {
			if len(words) > 1 {
				l = append(l, [2]string{joined(slices.Delete(slices.Clone(words), i, i+1)), "what"})
			}
			l = append(l, repeated("what", joined(slices.Insert(slices.Clone(words), i+1, words[i])), joined(append(slices.Clone(words), words[:i+1]...)))...)
		}
		for _, more := range []string{"x", "1", "61", "n", "-", "\x00", line} {
			l = append(l, [2]string{line + " " + more, "what"})
		}
		for cut := 1; cut < len(words); cut++ {
			l = append(l, [2]string{joined(words[:cut]), "what"})
		}
		wantTalk(t, line, append(l, as...))
	}
	wantTalk(t, "commands alone", repeated("what", "create", "mkdir", "unlink", "rmdir", "link", "rename", "write", "look", "list", "crash", "same"))
}

func TestDeskCommandsThatAreNone(t *testing.T) {
	l := deskStart()
	for _, line := range deskLines() {
		words := partsAt(line, 32)
		rest := line[len(words[0]):]
		c := words[0]
		l = append(l, repeated("what", strings.ToUpper(c)+rest, c+"s"+rest, c[:len(c)-1]+rest, c[1:]+rest, c+"\t"+strings.TrimPrefix(rest, " "), c+"\r"+rest)...)
	}
	l = append(l, repeated("what", "hello", "what", "down", "1", "0", "create\x001\x00a", "\xff", "call 1 a", "format", "fall 0", "new", "a", "\xc3\x85 1 a")...)
	half := len(l) / 2
	wantTalk(t, "none, one half", append(slices.Clone(l[:half]), talk{{"list 1", "6e 64"}, {"step", "2"}}...))
	wantTalk(t, "none, the other half", append(append(deskStart(), l[half:]...), talk{{"list 1", "6e 64"}, {"step", "2"}}...))
	// A word that ends its line by a byte 13 has that byte.
	wantTalk(t, "bytes 13", talk{{"sync\r", "what"}, {"truth\r", "what"}, {"list 1\r", "what"}, {"create 1 a\r", "1"}, {"same a a\r", "no"}, {"list 1", ""}})
}

// deskNumbers has a line for each place of a number, with a mark in it.
func deskNumbers() []string {
	return []string{"create # new", "mkdir # new", "unlink # n", "rmdir # d", "link # n 1 m", "link 1 n # m", "rename # n 1 m", "rename 1 n # m", "write # n 61", "look # n", "list #", "crash #"}
}

func TestDeskNumbersThatAreNone(t *testing.T) {
	words := []string{"", "x", "01", "001", "00", "-0", "-01", "+1", "-", "--1", "1x", "x1", "1.0", "1e1", "0x1", "1_0", "1000000000", "9999999999", "-1000000000", "9223372036854775808", "18446744073709551617", "4294967297", "\xd9\xa1", "\xef\xbc\x91", "1\t", "\t1", "1\r", "1\x00", "one", "n"}
	for _, line := range deskNumbers() {
		l := deskStart()
		for _, word := range words {
			l = append(l, [2]string{strings.Replace(line, "#", word, 1), "what"})
		}
		wantTalk(t, line, append(l, talk{{"list 1", "6e 64"}, {"list 3", ""}, {"look 1 n", "0 2 6e "}, {"step", "2"}}...))
	}
}

func TestDeskNumbersAtTheLimits(t *testing.T) {
	for _, line := range deskNumbers() {
		l := deskStart()
		for _, x := range []struct{ word, code string }{
			{"-999999999", "1"}, {"-100000", "1"}, {"-2", "1"}, {"-1", "1"}, {"0", "2"}, {"4", "2"}, {"99999", "2"}, {"100000", "2"}, {"100001", "1"}, {"999999999", "1"},
		} {
			answer := x.code
			switch line {
			case "list #":
				answer = "none"
			case "crash #":
				l = append(l, talk{{"crash " + x.word, "0"}, {"crash " + x.word, "2"}, {"mount", "0"}, {"step", "0"}, {"list 1", ""}}...)
				continue
			}
			l = append(l, [2]string{strings.Replace(line, "#", x.word, 1), answer})
		}
		wantTalk(t, line, l)
	}
}

// TestDeskCrashIsByItsNumber asks that N is the mask.
func TestDeskCrashIsByItsNumber(t *testing.T) {
	for _, x := range []struct {
		word string
		kept bool
	}{
		{"0", false}, {"1", true}, {"2", false}, {"3", true}, {"-1", false}, {"-2", false}, {"-999999999", false}, {"999999998", false}, {"999999999", true},
	} {
		look := "2"
		if x.kept {
			look = "0 2 61 "
		}
		wantTalk(t, "crash "+x.word, append(talk{{"create 1 a", "0 2"}}, append(repeated("0", "sync", "step", "crash "+x.word, "mount", "step"), [2]string{"look 1 a", look})...))
	}
}

func TestDeskHex(t *testing.T) {
	l := append(deskStart(), [2]string{"write 1 n 68690a", "0"})
	for _, word := range []string{"6", "616", "z", "zz", "6z", "z6", "6A", "A6", "FF", "0x61", "6869 ", "6 8", "-1", "-61", "+6", "61\r", "\xc3\x85", "61\x00", "6.", "\"61\"", "6869z", strings.Repeat("61", 20) + "6"} {
		l = append(l, talk{{"write 1 n " + word, "what"}, {"write 9 . " + word, "what"}}...)
	}
	wantTalk(t, "that Unhex does not take", append(l, [2]string{"look 1 n", "0 2 6e 68690a"}))
	l = deskStart()
	for _, data := range []string{"", "\x00", "\xff", "\n", " ", "a b\nc", "\r\n", mixedText(19), mixedText(20), strings.Repeat("\x00", 20)} {
		l = append(l, talk{{"write 1 N " + hexOf(data), "0"}, {"look 1 n", "0 2 6e " + hexOf(data)}}...)
	}
	for _, size := range []int{21, 22, 100} {
		l = append(l, talk{{"write 1 n " + hexOf(mixedText(size)), "1"}, {"look 1 n", "0 2 6e " + strings.Repeat("00", 20)}}...)
	}
	wantTalk(t, "that it takes", l)
}

// fileLines makes a file and writes into it.
func fileLines(name string, id int, data string) talk {
	return talk{{"create 1 " + name, "0 " + strconv.Itoa(id)}, {"write 1 " + name + " " + data, "0"}}
}

// TestDeskSyncedFileIsThereBehindAFall has a file that is synced step by step, and one behind the sync that goes with the fall.
func TestDeskSyncedFileIsThereBehindAFall(t *testing.T) {
	wantTalk(t, "by hand", talk{
		{"create 1 \xe2\x84\xab", "0 2"}, {"write 1 \xc3\x85 68690a", "0"}, {"sync", "0"}, {"step", "0"}, {"step", "0"}, {"step", "0"}, {"step", "0"}, {"step", "2"}, {"truth", "yes"},
		{"create 1 later", "0 3"}, {"write 1 LATER 6c", "0"}, {"write 1 a\xcc\x8a 6e6f", "0"}, {"look 1 \xc3\xa5", "0 2 e284ab 6e6f"}, {"truth", "yes"},
		{"crash 1", "0"}, {"truth", "yes"}, {"look 1 \xc3\xa5", "down"}, {"list 1", "none"}, {"mount", "0"}, {"list 1", "none"}, {"step", "0"}, {"truth", "yes"},
		{"look 1 a\xcc\x8a", "0 2 e284ab 68690a"}, {"look 1 A\xcc\x8a", "0 2 e284ab 68690a"}, {"look 1 \xc3\x85", "0 2 e284ab 68690a"}, {"look 1 later", "2"}, {"list 1", "e284ab"},
		{"create 1 later", "0 3"}, {"sync", "0"}, {"step", "0"}, {"crash 1", "0"}, {"mount", "0"}, {"crash 2", "0"}, {"mount", "0"}, {"step", "0"}, {"look 1 Later", "0 3 6c61746572 "}, {"look 1 \xc3\xa5", "0 2 e284ab 68690a"}, {"truth", "yes"},
	})
	for _, mask := range []int{-1, 0, 1, 2, 3, 999999999} {
		l := append(fileLines("\xc3\x9f", 2, "6869"), repeated("0", "sync", "step", "step", "step", "step")...)
		l = append(l, fileLines("behind", 3, "6c61")...)
		l = append(l, repeated("0", "crash "+strconv.Itoa(mask), "mount", "step")...)
		l = append(l, talk{{"look 1 SS", "0 2 c39f 6869"}, {"look 1 behind", "2"}, {"list 1", "c39f"}, {"truth", "yes"}}...)
		wantTalk(t, "one made behind the sync, and a fall by "+strconv.Itoa(mask), l)
	}
}

// TestDeskFallsInASync has a second file whose sync is on its way: behind any fall it is not there, or there whole.
func TestDeskFallsInASync(t *testing.T) {
	for steps := range 5 {
		for mask := range 16 {
			for _, again := range []int{-1, 0, 3, 6, 15} {
				l := append(fileLines("\xc3\x85", 2, "6869"), repeated("0", "sync", "step", "step", "step", "step")...)
				l = append(append(l, fileLines("new", 3, "6e6577")...), [2]string{"sync", "0"})
				l = append(l, repeated("0", slices.Repeat([]string{"step"}, steps)...)...)
				l = append(append(l, fileLines("never", 4, "6e")...), talk{{"write 1 new 78", "0"}, {"crash " + strconv.Itoa(mask), "0"}, {"mount", "0"}, {"crash " + strconv.Itoa(again), "0"}, {"mount", "0"}, {"step", "0"}}...)
				look := "2"
				if steps > 1 || steps == 1 && mask%2 == 1 {
					look = "0 3 6e6577 6e6577"
				}
				l = append(l, talk{{"look 1 a\xcc\x8a", "0 2 c385 6869"}, {"look 1 NEW", look}, {"look 1 never", "2"}, {"truth", "yes"}}...)
				text := l.text()
				if got := impl.Desk(text); got != l.answers() {
					t.Errorf("%d steps, masks %d and %d: %q, want %q", steps, mask, again, got, l.answers())
				}
			}
		}
	}
}

// Long talks.

// lineOfAct has the line that asks for an act; of one of no Kind one that is none.
func lineOfAct(a impl.Act) string {
	for command, form := range deskForms {
		if form.act == 0 || form.act != a.Kind || form.call != a.Call.Kind && a.Kind == 1 {
			continue
		}
		line := command
		if a.Kind == 4 {
			return line + " " + strconv.Itoa(a.N)
		}
		if a.Kind == 1 {
			line += " " + strconv.Itoa(a.Call.Dir) + " " + a.Call.Name
		}
		switch form.words {
		case "nwnw":
			line += " " + strconv.Itoa(a.Call.To) + " " + a.Call.As
		case "nwx":
			line += " " + hexOf(a.Call.Data)
		}
		return line
	}
	return "none " + strconv.Itoa(a.N)
}

// messOf changes a line a little.
func (s *steady) messOf(line string) string {
	at := s.below(len(line) + 1)
	switch s.below(4) {
	case 0:
		return line[:at] + " " + line[at:]
	case 1:
		return line[:at] + line[min(at+1, len(line)):]
	case 2:
		return line[:at] + string([]byte{byte(s.below(256))}) + line[at:]
	}
	return line[:at]
}

func (s *steady) someLine(f impl.Fs, calm bool) string {
	names := []string{"FILE", "file", "\xc3\x85", "a\xcc\x8a", "ss", "\xc3\x9f", "", ".", "x"}
	switch at := s.below(100); {
	case at < 6:
		return ""
	case at < 14:
		return "list " + strconv.Itoa(s.below(9))
	case at < 18:
		return "truth"
	case at < 22:
		return "same " + names[s.below(len(names))] + " " + names[s.below(len(names))]
	case at < 26:
		return lineOfAct(callAct(callOf(1+s.below(4), 1, "x")))
	}
	a := s.someAct(f)
	if calm {
		a = callAct(s.callInDirs(f.Mem))
	}
	if s.below(8) == 0 {
		return s.messOf(lineOfAct(a))
	}
	return lineOfAct(a)
}

// callInDirs asks for something in a directory: so that they get full, and below each other.
func (s *steady) callInDirs(v impl.Vol) impl.Call {
	dirs := slices.DeleteFunc(slices.Clone(v.Inodes), func(n impl.Inode) bool { return n.Kind != 2 })
	c := s.someCall(v)
	c.Dir = dirs[s.below(len(dirs))].Id
	if c.To > 0 {
		c.To = dirs[s.below(len(dirs))].Id
	}
	return c
}

// someText has so many lines, mostly such as can be; every other one is calm, without falls.
func (w deskWords) someText(s *steady, count int) string {
	f, calm := newFsByWords(), s.below(2) == 0
	var out []string
	for range count {
		line := s.someLine(f, calm)
		out = append(out, line)
		for _, part := range linesOf(line) {
			if part != "" {
				w.answer(&f, part)
			}
		}
	}
	return strings.Join(out, "\n") + "\n"[:s.below(2)]
}

// kindOf tells answers of one kind alike.
func kindOf(answer string) string {
	switch {
	case answer == "":
		return "empty"
	case strings.HasPrefix(answer, "0 "):
		return "0 .."
	case len(answer) > 1 && strings.Trim(answer, "0123456789abcdef ") == "":
		return "names"
	}
	return answer
}

// TestLongDesks asks long talks by the words; each answer that can be is among them.
func TestLongDesks(t *testing.T) {
	w := newDeskWords(t)
	kinds := map[string]int{}
	for seed := range 150 {
		s := steady{uint64(11000 + seed)}
		text := w.someText(&s, 1+s.below(118))
		for _, answer := range linesOf(w.wantDeskByWords(t, "long", text)) {
			kinds[kindOf(answer)]++
		}
		if t.Failed() {
			return
		}
	}
	for _, kind := range []string{"what", "down", "none", "yes", "no", "empty", "names", "0 ..", "0", "1", "2", "3", "4", "5", "6", "7", "8"} {
		if kinds[kind] == 0 {
			t.Errorf("no answer is %s: %v", kind, kinds)
		}
	}
	if len(kinds) != 17 {
		t.Errorf("other answers: %v", kinds)
	}
}

// answeredLines is how many lines have a byte.
func answeredLines(text string) int {
	count := 0
	for _, line := range linesOf(text) {
		if line != "" {
			count++
		}
	}
	return count
}

// TestDeskLinesBehindChangeNothing is promise 11: each line that has a byte is answered by one line, and the first answers stay when more lines follow.
func TestDeskLinesBehindChangeNothing(t *testing.T) {
	w := newDeskWords(t)
	for seed := range 8 {
		s := steady{uint64(12000 + seed)}
		text := w.someText(&s, 40+s.below(70))
		other := w.someText(&s, 8)
		all := impl.Desk(text)
		if all == "" || strings.Count(all, "\n") != answeredLines(text) || !strings.HasSuffix(all, "\n") {
			t.Fatalf("Desk of %q: %q", text, all)
		}
		lines := linesOf(text)
		for count := range lines {
			first := strings.Join(lines[:count], "\n")
			if count > 0 {
				first += "\n"
			}
			answers := impl.Desk(first)
			if strings.Count(answers, "\n") != answeredLines(first) || !strings.HasPrefix(all, answers) {
				t.Fatalf("the first %d lines of %q are answered by %q, all of them by %q", count, text, answers, all)
			}
			if got := impl.Desk(first + other); !strings.HasPrefix(got, answers) || strings.Count(got, "\n") != answeredLines(first+other) {
				t.Fatalf("%q, with %q behind it, is answered by %q, without by %q", first, other, got, answers)
			}
			if count > 0 && impl.Desk(first[:len(first)-1]) != answers {
				t.Fatalf("%q is answered otherwise without its last byte 10", first)
			}
		}
	}
}

// TestDeskLinesThatAreNoneChangeNothing has a line that is answered by what in each place of a talk.
func TestDeskLinesThatAreNoneChangeNothing(t *testing.T) {
	w := newDeskWords(t)
	s := steady{13}
	lines := linesOf(w.someText(&s, 100))
	lines = slices.DeleteFunc(lines, func(line string) bool { return line == "" })
	answers := linesOf(impl.Desk(strings.Join(lines, "\n")))
	nones := []string{"create 1", "create x new", "write 1 file z", "sync 1", "step ", " crash 0", "crash", "mount mount", "unlink 1 file ", "rename 1 file 1 FILE x"}
	for at := range len(lines) + 1 {
		for _, none := range nones[at%5 : at%5+6] {
			want := strings.Join(slices.Insert(slices.Clone(answers), at, "what"), "\n") + "\n"
			if got := impl.Desk(strings.Join(slices.Insert(slices.Clone(lines), at, none), "\n")); got != want {
				t.Fatalf("%q in line %d of %q: %q, want %q", none, at, lines, got, want)
			}
		}
	}
}

// TestDeskCutAnywhere asks by the words for each beginning of a text, lines that are cut among them.
func TestDeskCutAnywhere(t *testing.T) {
	w := newDeskWords(t)
	text := "create 1 \xc3\x85\nwrite 1 a\xcc\x8a 6869\n\nmkdir 1 d\nlink 1 \xc3\xa5 3 x\nsync\nstep\nrename 3 X 1 y\ncrash 1\nlist 1\nmount\nstep\nlook 3 X\nlist 3\nsame a A\ntruth\n"
	for size := range len(text) + 1 {
		w.wantDeskByWords(t, "cut", text[:size])
		w.wantDeskByWords(t, "cut ahead", text[size:])
	}
}

// TestDeskOfAnyBytes asks texts that are hardly any lines.
func TestDeskOfAnyBytes(t *testing.T) {
	w := newDeskWords(t)
	s := steady{17}
	for range 300 {
		w.wantDeskByWords(t, "any bytes", s.bytesBelow(200))
	}
	parts := []string{"create", "mkdir", "look", "list", "write", "sync", "step", "crash", "mount", "same", "truth", "rename", "1", "2", "0", "-1", "a", "A", "61", " ", " ", " ", " ", " ", " ", " ", "\n", "\n", "\n", "\n"}
	for range 1500 {
		text := ""
		for range s.below(60) {
			text += parts[s.below(len(parts))]
		}
		w.wantDeskByWords(t, "any words", text)
	}
	textsOf("\n \r", 6, func(text string) { w.wantDeskByWords(t, "ends, blanks and bytes 13", text) })
}

// TestDeskKeepsNothing asks in between for other texts, right and too great.
func TestDeskKeepsNothing(t *testing.T) {
	text := "create 1 a\nlist 1\nsync\nstep\ncrash 1\nmount\nstep\nlook 1 A\n"
	want := "0 2\n61\n0\n0\n0\n0\n0\n0 2 61 \n"
	for _, between := range []string{"", "create 1 b\nsync\nstep\nstep\nstep\nstep\n", "crash 0\n", strings.Repeat("x", 20001), strings.Repeat("truth\n", 121), text} {
		wantDesk(t, "first", text, want)
		impl.Desk(between)
		wantDesk(t, "again", text, want)
		wantDesk(t, "a new machine", "list 1\nmount\nlook 1 a\ntruth", "\n2\n2\nyes\n")
	}
}
