package tests

import (
	"math"
	"slices"
	"strings"
	"testing"

	"loop.example/g00773/impl"
)

// bitsInMap stands here as the document has it.
const bitsInMap = 24

// mapOf has a flag a sign: # is set, all else is free.
func mapOf(text string) []bool {
	b := make([]bool, len(text))
	for i := range len(text) {
		b[i] = text[i] == '#'
	}
	return b
}

func textOfMap(b []bool) string {
	var out strings.Builder
	for _, set := range b {
		if set {
			out.WriteByte('#')
		} else {
			out.WriteByte('.')
		}
	}
	return out.String()
}

func isMap(b []bool) bool { return len(b) == bitsInMap }

// runsAt has runs: At, Len, At, Len and so on.
func runsAt(numbers ...int) []impl.Run {
	var l []impl.Run
	for i := 0; i < len(numbers); i += 2 {
		l = append(l, impl.Run{At: numbers[i], Len: numbers[i+1]})
	}
	return l
}

// In the document's words.

// freeAt is false of a place that is none.
func freeAt(b []bool, at int) bool { return at >= 0 && at < len(b) && !b[at] }

func allFree(b []bool, at, n int) bool {
	for i := range n {
		if !freeAt(b, at+i) {
			return false
		}
	}
	return true
}

// runsByWords takes of all flags side by side those that are free and have no free one on either side.
func runsByWords(b []bool) []impl.Run {
	if !isMap(b) {
		return nil
	}
	var out []impl.Run
	for at := range bitsInMap {
		for n := 1; at+n <= bitsInMap; n++ {
			if allFree(b, at, n) && !freeAt(b, at-1) && !freeAt(b, at+n) {
				out = append(out, impl.Run{At: at, Len: n})
			}
		}
	}
	return out
}

// findByWords needs no runs: the first place with n free flags from there on begins a run, else the one ahead of it had them too.
func findByWords(b []bool, n int) int {
	if !isMap(b) || n < 1 || n > bitsInMap {
		return -1
	}
	for at := range bitsInMap {
		if allFree(b, at, n) {
			return at
		}
	}
	return -1
}

// setByWords ends at the first of these that is no flag, so that no number of it goes round.
func setByWords(b []bool, at, n int, v bool) ([]bool, bool) {
	if !isMap(b) {
		return nil, false
	}
	out := slices.Clone(b)
	for i := 0; i < n; i++ {
		p := at + i
		if p < 0 || p >= bitsInMap || b[p] == v {
			return slices.Clone(b), false
		}
		out[p] = v
	}
	return out, n >= 1
}

func freeByWords(b []bool) int {
	if !isMap(b) {
		return 0
	}
	n := 0
	for _, set := range b {
		if !set {
			n++
		}
	}
	return n
}

func TestBitsByTheWordsThemselves(t *testing.T) {
	b := mapOf("#..##....#..............")
	if got := runsByWords(b); !slices.Equal(got, runsAt(1, 2, 5, 4, 10, 14)) {
		t.Error("runs", got)
	}
	for _, row := range [][2]int{{1, 1}, {2, 1}, {3, 5}, {4, 5}, {5, 10}, {14, 10}, {15, -1}, {24, -1}, {25, -1}, {0, -1}} {
		if got := findByWords(b, row[0]); got != row[1] {
			t.Error("find", row, got)
		}
	}
	if got, ok := setByWords(b, 5, 4, true); !ok || textOfMap(got) != "#..#######.............." {
		t.Error("set", textOfMap(got), ok)
	}
	if got, ok := setByWords(b, 9, 2, true); ok || !slices.Equal(got, b) {
		t.Error("set already", textOfMap(got), ok)
	}
	if freeByWords(b) != 20 {
		t.Error("free", freeByWords(b))
	}
}

// roomyFlags has b with room behind it, of flags that are all set or all free, and tells whether both are as they were.
func roomyFlags(b []bool, behind bool) ([]bool, func() bool) {
	all := slices.Clone(b)
	for range 40 {
		all = append(all, behind)
	}
	before := slices.Clone(all)
	return all[:len(b)], func() bool { return slices.Equal(all, before) }
}

// spoilFlags turns over all memory of a list, the room behind it included.
func spoilFlags(l []bool) {
	l = l[:cap(l)]
	for i := range l {
		l[i] = !l[i]
	}
}

func spoilRuns(l []impl.Run) {
	l = l[:cap(l)]
	for i := range l {
		l[i] = impl.Run{At: -7, Len: -8}
	}
}

func wantBitsOk(t *testing.T, b []bool, want bool) {
	t.Helper()
	for _, behind := range []bool{false, true} {
		given, left := roomyFlags(b, behind)
		if got := impl.BitsOk(given); got != want {
			t.Errorf("BitsOk of %d flags %s = %v", len(b), textOfMap(b), got)
		}
		if !left() {
			t.Errorf("BitsOk of %s changed what was given", textOfMap(b))
		}
	}
}

func wantRuns(t *testing.T, b []bool, want []impl.Run) {
	t.Helper()
	for _, behind := range []bool{false, true} {
		given, left := roomyFlags(b, behind)
		got := impl.Runs(given)
		if !slices.Equal(got, want) {
			t.Errorf("Runs of %s = %v, not %v", textOfMap(b), got, want)
		}
		spoilRuns(got)
		if again := impl.Runs(given); !slices.Equal(again, want) {
			t.Errorf("Runs of %s = %v behind a change of its answer, not %v", textOfMap(b), again, want)
		}
		if !left() {
			t.Errorf("Runs of %s changed what was given", textOfMap(b))
		}
	}
}

func wantFind(t *testing.T, b []bool, n int, want int) {
	t.Helper()
	for _, behind := range []bool{false, true} {
		given, left := roomyFlags(b, behind)
		if got := impl.FindRun(given, n); got != want {
			t.Errorf("FindRun of %s and %d = %d, not %d", textOfMap(b), n, got, want)
		}
		if !left() {
			t.Errorf("FindRun of %s and %d changed what was given", textOfMap(b), n)
		}
	}
}

// wantSet asks the answer, that what was given is left, and that they share nothing, whichever of both is changed.
func wantSet(t *testing.T, b []bool, at, n int, v bool, want []bool, ok bool) {
	t.Helper()
	for _, behind := range []bool{v, !v} {
		given, left := roomyFlags(b, behind)
		got, gotOk := impl.SetRun(given, at, n, v)
		if gotOk != ok || !slices.Equal(got, want) {
			t.Errorf("SetRun of %s at %d, %d, %v = %s, %v, not %s, %v", textOfMap(b), at, n, v, textOfMap(got), gotOk, textOfMap(want), ok)
		}
		if !left() {
			t.Errorf("SetRun of %s at %d, %d, %v changed what was given", textOfMap(b), at, n, v)
		}
		spoilFlags(given)
		if len(got) == len(want) && !slices.Equal(got, want) {
			t.Errorf("SetRun of %s at %d, %d, %v keeps what was given", textOfMap(b), at, n, v)
		}
		spoilFlags(given)
		spoilFlags(got)
		if !left() {
			t.Errorf("SetRun of %s at %d, %d, %v shares memory with what was given", textOfMap(b), at, n, v)
		}
	}
}

func wantSetRefused(t *testing.T, b []bool, at, n int, v bool) {
	t.Helper()
	wantSet(t, b, at, n, v, b, false)
}

func wantFree(t *testing.T, b []bool, want int) {
	t.Helper()
	for _, behind := range []bool{false, true} {
		given, left := roomyFlags(b, behind)
		if got := impl.FreeOf(given); got != want {
			t.Errorf("FreeOf of %s = %d, not %d", textOfMap(b), got, want)
		}
		if !left() {
			t.Errorf("FreeOf of %s changed what was given", textOfMap(b))
		}
	}
}

const allSet = "########################"
const noneSet = "........................"

// mapRows are right maps with the runs that they have, told by hand.
var mapRows = []struct {
	why  string
	text string
	runs []impl.Run
}{
	{"all set", allSet, nil},
	{"all free", noneSet, runsAt(0, 24)},
	{"one free at the beginning", ".#######################", runsAt(0, 1)},
	{"one free behind the beginning", "#.######################", runsAt(1, 1)},
	{"one free in the midst", "############.###########", runsAt(12, 1)},
	{"one free ahead of the end", "######################.#", runsAt(22, 1)},
	{"one free at the end", "#######################.", runsAt(23, 1)},
	{"one free at both ends", ".######################.", runsAt(0, 1, 23, 1)},
	{"one set at the beginning", "#.......................", runsAt(1, 23)},
	{"one set behind the beginning", ".#......................", runsAt(0, 1, 2, 22)},
	{"one set in the midst", "............#...........", runsAt(0, 12, 13, 11)},
	{"one set between two that are free", "##########.#.###########", runsAt(10, 1, 12, 1)},
	{"one set between two runs of two", "#########..#..##########", runsAt(9, 2, 12, 2)},
	{"one set ahead of the end", "......................#.", runsAt(0, 22, 23, 1)},
	{"one set at the end", ".......................#", runsAt(0, 23)},
	{"one set at both ends", "#......................#", runsAt(1, 22)},
	{"the first half free", "............############", runsAt(0, 12)},
	{"the second half free", "############............", runsAt(12, 12)},
	{"a run that ends with the map", "####################....", runsAt(20, 4)},
	{"a run that ends a flag ahead of the end", "###################....#", runsAt(19, 4)},
	{"each second one free, from the first on", ".#.#.#.#.#.#.#.#.#.#.#.#", runsAt(0, 1, 2, 1, 4, 1, 6, 1, 8, 1, 10, 1, 12, 1, 14, 1, 16, 1, 18, 1, 20, 1, 22, 1)},
	{"each second one free, up to the last", "#.#.#.#.#.#.#.#.#.#.#.#.", runsAt(1, 1, 3, 1, 5, 1, 7, 1, 9, 1, 11, 1, 13, 1, 15, 1, 17, 1, 19, 1, 21, 1, 23, 1)},
	{"two free, one set", "..#..#..#..#..#..#..#..#", runsAt(0, 2, 3, 2, 6, 2, 9, 2, 12, 2, 15, 2, 18, 2, 21, 2)},
	{"one free, two set", "##.##.##.##.##.##.##.##.", runsAt(2, 1, 5, 1, 8, 1, 11, 1, 14, 1, 17, 1, 20, 1, 23, 1)},
	{"longer and longer", ".#..#...#....#.....#....", runsAt(0, 1, 2, 2, 5, 3, 9, 4, 14, 5, 20, 4)},
	{"shorter and shorter", "......#.....#....#...#..", runsAt(0, 6, 7, 5, 13, 4, 18, 3, 22, 2)},
	{"around a byte", "#######.########..######", runsAt(7, 1, 16, 2)},
	{"over a byte", "#######..#####....######", runsAt(7, 2, 14, 4)},
	{"of the document's given test", "#..##....#..............", runsAt(1, 2, 5, 4, 10, 14)},
}

// notMaps have too few flags or too many.
func notMaps() [][]bool {
	out := [][]bool{nil, {}}
	for _, n := range []int{1, 2, 8, 16, 22, 23, 25, 26, 31, 32, 33, 47, 48, 64, 65, 1000} {
		free, each := make([]bool, n), make([]bool, n)
		set := slices.Repeat([]bool{true}, n)
		for i := range n {
			each[i] = i%2 == 0
		}
		out = append(out, free, set, each)
	}
	return out
}

// oddPlaces are places around both ends of the map, and far ones, some of which look like a place when bits are lost.
func oddPlaces() []int {
	out := []int{math.MinInt, math.MinInt + 1, math.MinInt + 23, -1 << 40, -1<<32 + 3, -65, -64, -25, -24, -23, -3, -2, -1}
	for i := range 27 {
		out = append(out, i)
	}
	out = append(out, 31, 32, 33, 63, 64, 65, 1<<31-1, 1<<31, 1<<32, 1<<32+1, 1<<32+3, 1<<32+24, 1<<62)
	for i := 26; i >= 0; i-- {
		out = append(out, math.MaxInt-i)
	}
	return out
}

func TestBitsOfEachLength(t *testing.T) {
	if impl.Bits != bitsInMap {
		t.Fatal("Bits", impl.Bits)
	}
	for n := range 200 {
		b := make([]bool, n)
		wantBitsOk(t, b, n == 24)
		for i := range b {
			b[i] = i%3 > 0
		}
		wantBitsOk(t, b, n == 24)
		for i := range b {
			b[i] = true
		}
		wantBitsOk(t, b, n == 24)
	}
	if impl.BitsOk(nil) {
		t.Error("BitsOk of nothing")
	}
}

func TestBitsOkOfMaps(t *testing.T) {
	for _, row := range mapRows {
		b := mapOf(row.text)
		wantBitsOk(t, b, true)
		wantBitsOk(t, b[:23], false)
		wantBitsOk(t, b[1:], false)
		wantBitsOk(t, b[:0], false)
		wantBitsOk(t, append(b, false), false)
		wantBitsOk(t, append(b, true), false)
	}
	for _, b := range notMaps() {
		wantBitsOk(t, b, false)
	}
}

func TestBitsOfWhatIsNoMap(t *testing.T) {
	for _, b := range notMaps() {
		wantRuns(t, b, nil)
		wantFree(t, b, 0)
		for _, n := range oddPlaces() {
			wantFind(t, b, n, -1)
		}
		for at := -2; at < 27; at++ {
			for n := -1; n < 27; n++ {
				wantSet(t, b, at, n, true, nil, false)
				wantSet(t, b, at, n, false, nil, false)
			}
		}
		for _, at := range oddPlaces() {
			wantSet(t, b, at, 1, true, nil, false)
			wantSet(t, b, 0, at, false, nil, false)
		}
	}
}

func TestBitsOfOneFewerWithTheLastOneInTheRoom(t *testing.T) {
	for _, row := range mapRows {
		all := mapOf(row.text)
		before := slices.Clone(all)
		for _, b := range [][]bool{all[:23], all[1:], all[:0], all[24:]} {
			if impl.BitsOk(b) || len(impl.Runs(b)) != 0 || impl.FindRun(b, 1) != -1 || impl.FreeOf(b) != 0 {
				t.Errorf("%s: %d of its flags are taken for a map", row.why, len(b))
			}
			for _, v := range []bool{true, false} {
				got, ok := impl.SetRun(b, 1, 1, v)
				spoilFlags(got)
				if len(got) != 0 || ok || !slices.Equal(all, before) {
					t.Errorf("%s: SetRun of %d of its flags = %v, %v", row.why, len(b), got, ok)
				}
			}
		}
	}
}

func TestRunsByHand(t *testing.T) {
	for _, row := range mapRows {
		b := mapOf(row.text)
		if !isMap(b) || !slices.Equal(runsByWords(b), row.runs) {
			t.Fatalf("%s: the words have the runs %v", row.why, runsByWords(b))
		}
		wantRuns(t, b, row.runs)
	}
}

// wantRunsToBeAllThatIsFree holds the runs against the flags one by one: each is as long as it can be, they stand in order, and all of them together are what is free.
func wantRunsToBeAllThatIsFree(t *testing.T, b []bool) {
	t.Helper()
	in := make([]bool, bitsInMap)
	sum, end := 0, -1
	for _, r := range impl.Runs(b) {
		if r.Len < 1 || r.At <= end || r.At < 0 || r.Len > bitsInMap-r.At {
			t.Fatalf("Runs of %s: %v stands behind the end %d", textOfMap(b), r, end)
		}
		if freeAt(b, r.At-1) || freeAt(b, r.At+r.Len) {
			t.Errorf("Runs of %s: %v could be longer", textOfMap(b), r)
		}
		for i := range r.Len {
			in[r.At+i] = true
		}
		sum += r.Len
		end = r.At + r.Len
	}
	for at := range bitsInMap {
		if in[at] == b[at] {
			t.Errorf("Runs of %s: the flag at %d is in one of them: %v", textOfMap(b), at, in[at])
		}
	}
	if impl.FreeOf(b) != sum {
		t.Errorf("FreeOf of %s = %d, and its runs have %d", textOfMap(b), impl.FreeOf(b), sum)
	}
}

func TestRunsAreAllThatIsFree(t *testing.T) {
	for _, row := range mapRows {
		wantRunsToBeAllThatIsFree(t, mapOf(row.text))
	}
	for _, b := range windowMaps(10) {
		wantRunsToBeAllThatIsFree(t, b)
	}
}

// windowMaps has all there is of so many flags at the beginning, in the midst and at the end of the map, while all others are free, or set, or by turns.
func windowMaps(wide int) [][]bool {
	var out [][]bool
	for _, around := range []string{noneSet, allSet, ".#.#.#.#.#.#.#.#.#.#.#.#"} {
		for _, at := range []int{0, (bitsInMap - wide) / 2, bitsInMap - wide} {
			for bits := range 1 << wide {
				b := mapOf(around)
				for i := range wide {
					b[at+i] = bits>>i&1 == 1
				}
				out = append(out, b)
			}
		}
	}
	return out
}

// oneRunMaps has each map with one run: free among set ones, or set among free ones.
func oneRunMaps() [][]bool {
	var out [][]bool
	for _, v := range []bool{true, false} {
		for at := range bitsInMap {
			for n := 1; at+n <= bitsInMap; n++ {
				b := slices.Repeat([]bool{!v}, bitsInMap)
				for i := range n {
					b[at+i] = v
				}
				out = append(out, b)
			}
		}
	}
	return out
}

func TestRunsOfOneRun(t *testing.T) {
	for at := range bitsInMap {
		for n := 1; at+n <= bitsInMap; n++ {
			b := mapOf(strings.Repeat("#", at) + strings.Repeat(".", n) + strings.Repeat("#", bitsInMap-at-n))
			wantRuns(t, b, runsAt(at, n))
			wantFree(t, b, n)
			for long := 1; long <= bitsInMap; long++ {
				want := at
				if long > n {
					want = -1
				}
				wantFind(t, b, long, want)
			}
		}
	}
}

func TestRunsOfTwoRuns(t *testing.T) {
	for at := range bitsInMap {
		for gap := 1; at+gap < bitsInMap; gap++ {
			b := mapOf(strings.Repeat(".", at) + strings.Repeat("#", gap) + strings.Repeat(".", bitsInMap-at-gap))
			want := runsAt(0, at, at+gap, bitsInMap-at-gap)
			if at == 0 {
				want = want[1:]
			}
			wantRuns(t, b, want)
			wantFree(t, b, bitsInMap-gap)
		}
	}
}

func TestFindRunByHand(t *testing.T) {
	for _, row := range []struct {
		why  string
		text string
		n    int
		want int
	}{
		{"an earlier run is one too short", "#...#....###############", 4, 5},
		{"an earlier run is one too short, and the next one ends with the map", "...#................####", 4, 4},
		{"each run is one too short", "...#...#...#...#...#...#", 4, -1},
		{"each run is just long enough", "...#...#...#...#...#...#", 3, 0},
		{"two are long enough", "##...###...#############", 3, 2},
		{"two are long enough, the second one longer", "##...###.......#########", 3, 2},
		{"two are long enough, the first one longer", "##......####...#########", 3, 2},
		{"the second one fits just", "##......####...#########", 6, 2},
		{"behind two that are too short", ".##..####...############", 3, 9},
		{"the only one ends with the map", ".#..#...#...####........", 8, 16},
		{"the only one ends with the map and is one too short", ".#..#...#...####........", 9, -1},
		{"the only one is the last flag", "#######################.", 1, 23},
		{"two are asked of the last flag", "#######################.", 2, -1},
		{"two runs around the last one but one", "#####################.#.", 2, -1},
		{"the two last flags", "######################..", 2, 22},
		{"it ends a flag ahead of the end", "#######..###...........#", 11, 12},
		{"it ends a flag ahead of the end and is one too short", "#######..###...........#", 12, -1},
		{"all free", noneSet, 24, 0},
		{"all free, and one more is asked", noneSet, 25, -1},
		{"all free, one is asked", noneSet, 1, 0},
		{"all but the first are free", "#.......................", 23, 1},
		{"all but the first are free, all are asked", "#.......................", 24, -1},
		{"all but the last are free", ".......................#", 23, 0},
		{"all but the last are free, all are asked", ".......................#", 24, -1},
		{"all set", allSet, 1, -1},
		{"all set, all are asked", allSet, 24, -1},
		{"all set, none are asked", allSet, 0, -1},
		{"all free, none are asked", noneSet, 0, -1},
		{"all free, fewer than none are asked", noneSet, -1, -1},
	} {
		b := mapOf(row.text)
		if !isMap(b) || findByWords(b, row.n) != row.want {
			t.Fatalf("%s: the words have %d", row.why, findByWords(b, row.n))
		}
		wantFind(t, b, row.n, row.want)
	}
}

func TestFindRunOfEachLength(t *testing.T) {
	for _, row := range mapRows {
		b := mapOf(row.text)
		for n := 1; n <= bitsInMap; n++ {
			wantFind(t, b, n, findByWords(b, n))
			i := slices.IndexFunc(row.runs, func(r impl.Run) bool { return r.Len >= n })
			if i < 0 {
				wantFind(t, b, n, -1)
			} else {
				wantFind(t, b, n, row.runs[i].At)
			}
		}
	}
}

func TestFindRunOfNoLength(t *testing.T) {
	for _, row := range mapRows {
		b := mapOf(row.text)
		for _, n := range oddPlaces() {
			if n < 1 || n > bitsInMap {
				wantFind(t, b, n, -1)
			}
		}
		for _, n := range farNumbers {
			wantFind(t, b, n, -1)
		}
	}
}

func TestSetRunByHand(t *testing.T) {
	for _, row := range []struct {
		why   string
		text  string
		at, n int
		v     bool
		want  string
	}{
		{"the first flag", noneSet, 0, 1, true, "#......................."},
		{"one in the midst", noneSet, 12, 1, true, "............#..........."},
		{"the last flag", noneSet, 23, 1, true, ".......................#"},
		{"all flags", noneSet, 0, 24, true, allSet},
		{"all but the first", noneSet, 1, 23, true, ".#######################"},
		{"all but the last", noneSet, 0, 23, true, "#######################."},
		{"a run that ends with the map", noneSet, 20, 4, true, "....................####"},
		{"a run that ends a flag ahead of the end", noneSet, 19, 4, true, "...................####."},
		{"the first flag is cleared", allSet, 0, 1, false, ".#######################"},
		{"one in the midst is cleared", allSet, 12, 1, false, "############.###########"},
		{"the last flag is cleared", allSet, 23, 1, false, "#######################."},
		{"all flags are cleared", allSet, 0, 24, false, noneSet},
		{"a run that ends with the map is cleared", allSet, 20, 4, false, "####################...."},
		{"a run that ends a flag ahead of the end is cleared", allSet, 19, 4, false, "###################....#"},
		{"just a free run", "#..##....#..............", 5, 4, true, "#..#######.............."},
		{"a piece of a free run", "#..##....#..............", 6, 2, true, "#..##.##.#.............."},
		{"up to what is set", "#..##....#..............", 7, 2, true, "#..##..###.............."},
		{"the last free run", "#..##....#..............", 10, 14, true, "#..##....###############"},
		{"just what is set", "#..##....#..............", 3, 2, false, "#........#.............."},
		{"a piece of what is set", "#..##....#..............", 4, 1, false, "#..#.....#.............."},
		{"two runs become one", "#..##....#..............", 1, 2, true, "#####....#.............."},
		{"all of each second one", ".#.#.#.#.#.#.#.#.#.#.#.#", 22, 1, true, ".#.#.#.#.#.#.#.#.#.#.###"},
	} {
		b, want := mapOf(row.text), mapOf(row.want)
		if got, ok := setByWords(b, row.at, row.n, row.v); !ok || !slices.Equal(got, want) {
			t.Fatalf("%s: the words have %s, %v", row.why, textOfMap(got), ok)
		}
		wantSet(t, b, row.at, row.n, row.v, want, true)
		wantSet(t, want, row.at, row.n, !row.v, b, true)
	}
}

func TestSetRunRefusedByHand(t *testing.T) {
	for _, row := range []struct {
		why   string
		text  string
		at, n int
	}{
		{"none", noneSet, 0, 0},
		{"none in the midst", noneSet, 12, 0},
		{"none behind the end", noneSet, 24, 0},
		{"fewer than none", noneSet, 3, -1},
		{"fewer than none, from the last one", noneSet, 23, -1},
		{"the greatest fall", noneSet, 3, math.MinInt},
		{"ahead of the beginning", noneSet, -1, 1},
		{"from ahead of the beginning into the map", noneSet, -1, 2},
		{"from ahead of the beginning up to the end", noneSet, -1, 25},
		{"far ahead of the beginning", noneSet, -24, 24},
		{"behind the end", noneSet, 24, 1},
		{"behind the end, and one further", noneSet, 25, 1},
		{"past the end by one", noneSet, 23, 2},
		{"all, and one more", noneSet, 0, 25},
		{"from the second one on, as many as there are", noneSet, 1, 24},
		{"four from the last but two", noneSet, 21, 4},
		{"a sum past the greatest int", noneSet, 1, math.MaxInt},
		{"a sum past the greatest int, from the last one", noneSet, 23, math.MaxInt - 22},
		{"a sum that is the greatest int", noneSet, 23, math.MaxInt - 23},
		{"a sum that goes round to a place in the map", noneSet, math.MaxInt, math.MaxInt},
		{"one from the greatest int", noneSet, math.MaxInt, 1},
		{"two from the greatest int", noneSet, math.MaxInt, 2},
		{"a sum that goes round to 24", noneSet, math.MinInt, math.MinInt + 24},
		{"from the least int up to the map", noneSet, math.MinInt, math.MaxInt},
		{"from the least int", noneSet, math.MinInt, 1},
		{"a place whose lower half is one", noneSet, 1<<32 + 3, 1},
		{"a number whose lower half is one", noneSet, 3, 1<<32 + 1},
		{"a place that is one in a word", noneSet, 64, 1},
		{"a number that fits a word", noneSet, 0, 32},
		{"a number that is a word", noneSet, 0, 64},
		{"a number past a word", noneSet, 3, 65},
		{"the first is set already", "#...####################", 0, 4},
		{"a middle one is set already", "..#.####################", 0, 4},
		{"the last is set already", "...#####################", 0, 4},
		{"one alone is set already", "#.......................", 0, 1},
		{"the first of the last ones is set already", "....................#...", 20, 4},
		{"a middle one of the last ones is set already", "......................#.", 20, 4},
		{"the last of the map is set already", ".......................#", 20, 4},
		{"all are set already", allSet, 0, 24},
		{"the first of all is set already", "#.......................", 0, 24},
		{"the last of all is set already", ".......................#", 0, 24},
		{"one in the midst of all is set already", "............#...........", 0, 24},
	} {
		b := mapOf(row.text)
		over := slices.Clone(b)
		for i := range over {
			over[i] = !over[i]
		}
		if _, ok := setByWords(b, row.at, row.n, true); ok {
			t.Fatalf("%s: the words have true", row.why)
		}
		wantSetRefused(t, b, row.at, row.n, true)
		wantSetRefused(t, over, row.at, row.n, false)
	}
}

// What stands beside the run does not hold it up.
func TestSetRunBetweenOthers(t *testing.T) {
	for at := range bitsInMap {
		for n := 1; at+n <= bitsInMap; n++ {
			b := mapOf(strings.Repeat("#", at) + strings.Repeat(".", n) + strings.Repeat("#", bitsInMap-at-n))
			wantSet(t, b, at, n, true, mapOf(allSet), true)
			wantSet(t, mapOf(allSet), at, n, false, b, true)
			over := mapOf(strings.Repeat(".", at) + strings.Repeat("#", n) + strings.Repeat(".", bitsInMap-at-n))
			wantSet(t, over, at, n, false, mapOf(noneSet), true)
			wantSet(t, mapOf(noneSet), at, n, true, over, true)
			for _, grown := range [][2]int{{at - 1, n + 1}, {at, n + 1}, {at - 1, n + 2}} {
				wantSetRefused(t, b, grown[0], grown[1], true)
				wantSetRefused(t, over, grown[0], grown[1], false)
			}
		}
	}
}

// One flag that is v already holds up the run wherever in it it stands.
func TestSetRunWithOneFlagAlready(t *testing.T) {
	for at := range bitsInMap {
		for n := 1; at+n <= bitsInMap; n++ {
			for _, already := range []int{at, at + n/2, at + n - 1} {
				for _, v := range []bool{true, false} {
					b := slices.Repeat([]bool{!v}, bitsInMap)
					b[already] = v
					wantSetRefused(t, b, at, n, v)
				}
			}
		}
	}
}

func TestSetRunAtEachPlaceAndNumber(t *testing.T) {
	places := oddPlaces()
	for _, row := range mapRows {
		b := mapOf(row.text)
		for at := -2; at <= 26; at++ {
			for n := -2; n <= 26; n++ {
				for _, v := range []bool{true, false} {
					want, ok := setByWords(b, at, n, v)
					wantSet(t, b, at, n, v, want, ok)
				}
			}
		}
		for _, at := range places {
			for _, n := range places {
				for _, v := range []bool{true, false} {
					want, wantOk := setByWords(b, at, n, v)
					got, ok := impl.SetRun(b, at, n, v)
					if ok != wantOk || !slices.Equal(got, want) {
						t.Errorf("SetRun of %s at %d, %d, %v = %s, %v", row.text, at, n, v, textOfMap(got), ok)
					}
				}
			}
		}
	}
}

func TestSetRunOfFarNumbers(t *testing.T) {
	for _, text := range []string{noneSet, allSet, ".#.#.#.#.#.#.#.#.#.#.#.#"} {
		for _, v := range []bool{true, false} {
			for _, far := range farNumbers {
				for near := -1; near <= 25; near++ {
					wantSetRefused(t, mapOf(text), far, near, v)
					wantSetRefused(t, mapOf(text), near, far, v)
				}
				wantSetRefused(t, mapOf(text), far, -far, v)
				wantSetRefused(t, mapOf(text), far, 24-far, v)
				wantSetRefused(t, mapOf(text), 24-far, far, v)
			}
		}
	}
}

// wantUndone asks of each run that SetRun takes that it takes it back, and the map is as it was; and that it does not take it once more.
func wantUndone(t *testing.T, b []bool) {
	t.Helper()
	for at := range bitsInMap {
		for n := 1; at+n <= bitsInMap; n++ {
			for _, v := range []bool{true, false} {
				there, ok := impl.SetRun(b, at, n, v)
				if !ok {
					continue
				}
				if again, ok := impl.SetRun(there, at, n, v); ok || !slices.Equal(again, there) {
					t.Errorf("SetRun of %s at %d, %d, %v is taken twice", textOfMap(b), at, n, v)
				}
				if back, ok := impl.SetRun(there, at, n, !v); !ok || !slices.Equal(back, b) {
					t.Errorf("SetRun of %s at %d, %d, %v is taken back to %s, %v", textOfMap(b), at, n, v, textOfMap(back), ok)
				}
				change := n
				if v {
					change = -n
				}
				if impl.FreeOf(there) != impl.FreeOf(b)+change || !impl.BitsOk(there) {
					t.Errorf("FreeOf of %s behind SetRun at %d, %d, %v = %d", textOfMap(b), at, n, v, impl.FreeOf(there))
				}
			}
		}
	}
}

func TestWhatSetRunSetItClearsAgain(t *testing.T) {
	for _, row := range mapRows {
		wantUndone(t, mapOf(row.text))
	}
	for _, b := range oneRunMaps() {
		wantUndone(t, b)
	}
}

// What FindRun finds SetRun takes, until nothing is free.
func TestFoundRunsAreTaken(t *testing.T) {
	for _, row := range mapRows {
		for n := 1; n <= bitsInMap; n++ {
			b := mapOf(row.text)
			for at := impl.FindRun(b, n); at >= 0; at = impl.FindRun(b, n) {
				next, ok := impl.SetRun(b, at, n, true)
				if !ok || impl.FreeOf(next) != impl.FreeOf(b)-n {
					t.Fatalf("%s: %d at %d are found in %s and not taken", row.why, n, at, textOfMap(b))
				}
				b = next
			}
			for _, r := range impl.Runs(b) {
				if r.Len >= n {
					t.Errorf("%s: %v is left and not found", row.why, r)
				}
			}
		}
	}
}

func TestFreeOfByHand(t *testing.T) {
	for _, row := range mapRows {
		sum := 0
		for _, r := range row.runs {
			sum += r.Len
		}
		wantFree(t, mapOf(row.text), sum)
		wantFree(t, mapOf(row.text), strings.Count(row.text, "."))
	}
	wantFree(t, mapOf(noneSet), 24)
	wantFree(t, mapOf(allSet), 0)
}

// wantAllByWords asks all but SetRun at each n, and SetRun at the runs given.
func wantAllByWords(t *testing.T, b []bool, sets [][2]int) {
	t.Helper()
	if impl.BitsOk(b) != isMap(b) {
		t.Errorf("BitsOk of %s = %v", textOfMap(b), impl.BitsOk(b))
	}
	if got, want := impl.Runs(b), runsByWords(b); !slices.Equal(got, want) {
		t.Errorf("Runs of %s = %v, not %v", textOfMap(b), got, want)
	}
	if got, want := impl.FreeOf(b), freeByWords(b); got != want {
		t.Errorf("FreeOf of %s = %d, not %d", textOfMap(b), got, want)
	}
	for n := -1; n <= bitsInMap+1; n++ {
		if got, want := impl.FindRun(b, n), findByWords(b, n); got != want {
			t.Errorf("FindRun of %s and %d = %d, not %d", textOfMap(b), n, got, want)
		}
	}
	for _, run := range sets {
		for _, v := range []bool{true, false} {
			got, ok := impl.SetRun(b, run[0], run[1], v)
			want, wantOk := setByWords(b, run[0], run[1], v)
			if ok != wantOk || !slices.Equal(got, want) {
				t.Errorf("SetRun of %s at %d, %d, %v = %s, %v, not %s, %v", textOfMap(b), run[0], run[1], v, textOfMap(got), ok, textOfMap(want), wantOk)
			}
		}
	}
}

// allSets has each place and each number in the map, and those past its ends.
func allSets() [][2]int {
	var out [][2]int
	for at := -1; at <= bitsInMap; at++ {
		for n := 0; n <= bitsInMap+1; n++ {
			out = append(out, [2]int{at, n})
		}
	}
	return out
}

func TestBitsOfAllSmallWindows(t *testing.T) {
	sets := allSets()
	for _, b := range windowMaps(6) {
		wantAllByWords(t, b, sets)
	}
	for _, b := range oneRunMaps() {
		wantAllByWords(t, b, sets)
	}
	for _, b := range windowMaps(11) {
		wantAllByWords(t, b, [][2]int{{0, 3}, {11, 2}, {21, 3}, {22, 3}})
	}
}

// flags has a map whose flags are set as often as one in so many, or free as often.
func (s *steady) flags() []bool {
	b := make([]bool, bitsInMap)
	rare, v := 1+s.below(9), s.below(2) == 0
	for i := range b {
		b[i] = (s.below(rare) == 0) == v
	}
	return b
}

func TestBitsOfManyMaps(t *testing.T) {
	s := steady{15}
	var sets [][2]int
	for range 20 {
		sets = append(sets, [2]int{s.below(27) - 1, s.below(27)}, [2]int{s.below(24), 1 + s.below(3)})
	}
	for range 20000 {
		b := s.flags()
		if s.below(40) == 0 {
			b = b[:s.below(24)]
		}
		sets[s.below(len(sets))] = [2]int{s.below(26) - 1, s.below(6)}
		wantAllByWords(t, b, sets)
	}
}

// One map is set and cleared for long, and held against one of the test's own.
func TestSetRunForLong(t *testing.T) {
	s := steady{51}
	b, own := mapOf(noneSet), mapOf(noneSet)
	taken := 0
	for range 60000 {
		at, n, v := s.below(27)-1, s.below(7), s.below(2) == 0
		if s.below(3) == 0 && v {
			n = 1 + s.below(5)
			at = impl.FindRun(b, n)
		}
		next, ok := impl.SetRun(b, at, n, v)
		wantNext, wantOk := setByWords(own, at, n, v)
		if ok != wantOk || !slices.Equal(next, wantNext) || !slices.Equal(b, own) {
			t.Fatalf("SetRun of %s at %d, %d, %v = %s, %v", textOfMap(own), at, n, v, textOfMap(next), ok)
		}
		if ok {
			taken++
		}
		b, own = next, wantNext
		if !slices.Equal(impl.Runs(b), runsByWords(own)) || impl.FreeOf(b) != freeByWords(own) {
			t.Fatalf("%s has the runs %v", textOfMap(own), impl.Runs(b))
		}
	}
	if taken < 10000 {
		t.Errorf("only %d runs were taken", taken)
	}
}
