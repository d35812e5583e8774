package tests

import (
	"math"
	"strconv"
	"strings"
	"testing"

	"loop.example/g00773/impl"
)

// behind is what may follow a number that is read from the front of a text.
var behind = []string{"", "\x00", "\x01", "\x7f", "\x80", "\xff\xff\xff\xff\xff\xff\xff\xff", "abc"}

// textsOf calls do with each text of at most length bytes of the alphabet.
func textsOf(alphabet string, length int, do func(string)) {
	do("")
	level := []string{""}
	for range length {
		var longer []string
		for _, s := range level {
			for i := range len(alphabet) {
				longer = append(longer, s+alphabet[i:i+1])
			}
		}
		for _, s := range longer {
			do(s)
		}
		level = longer
	}
}

func TestFixedBytes(t *testing.T) {
	for _, c := range []struct {
		n, width int
		want     string
	}{
		{0, 1, "\x00"},
		{7, 1, "\x07"},
		{255, 1, "\xff"},
		{256, 1, ""},
		{256, 2, "\x01\x00"},
		{258, 2, "\x01\x02"},
		{65535, 2, "\xff\xff"},
		{65536, 2, ""},
		{1, 4, "\x00\x00\x00\x01"},
		{3808858755, 4, "\xe3\x06\x92\x83"},
		{0, 7, "\x00\x00\x00\x00\x00\x00\x00"},
		{0x01020304050607, 7, "\x01\x02\x03\x04\x05\x06\x07"},
		{1<<56 - 1, 7, "\xff\xff\xff\xff\xff\xff\xff"},
		{1 << 56, 7, ""},
		{math.MaxInt, 7, ""},
		{0, 0, ""},
		{0, 8, ""},
		{1, 8, ""},
		{0, -1, ""},
		{1, math.MaxInt, ""},
		{1, math.MinInt, ""},
		{-1, 1, ""},
		{-1, 7, ""},
		{math.MinInt, 7, ""},
	} {
		if got := impl.Fixed(c.n, c.width); got != c.want {
			t.Errorf("Fixed(%d, %d) = %q, want %q", c.n, c.width, got, c.want)
		}
	}
}

func TestFixedIsRead(t *testing.T) {
	for width := 1; width <= 7; width++ {
		most := 1<<(8*width) - 1
		for _, n := range []int{0, 1, 127, 128, 200, 255, most / 3, most / 2, most/2 + 1, most - 1, most} {
			s := impl.Fixed(n, width)
			if len(s) != width {
				t.Errorf("Fixed(%d, %d) has %d bytes", n, width, len(s))
			}
			for _, more := range behind {
				if got, ok := impl.ReadFixed(s+more, width); got != n || !ok {
					t.Errorf("ReadFixed(%q, %d) = %d, %v, want %d", s+more, width, got, ok, n)
				}
			}
		}
		if got := impl.Fixed(most+1, width); got != "" {
			t.Errorf("Fixed(%d, %d) = %q, want nothing", most+1, width, got)
		}
	}
}

func TestReadFixedRefuses(t *testing.T) {
	long := "\x01\x02\x03\x04\x05\x06\x07\x08\x09"
	for _, width := range []int{0, 8, 9, -1, math.MaxInt, math.MinInt} {
		if n, ok := impl.ReadFixed(long, width); n != 0 || ok {
			t.Errorf("ReadFixed(.., %d) = %d, %v", width, n, ok)
		}
	}
	for width := 1; width <= 7; width++ {
		for size := range width {
			if n, ok := impl.ReadFixed(long[:size], width); n != 0 || ok {
				t.Errorf("ReadFixed of %d bytes, %d = %d, %v", size, width, n, ok)
			}
		}
	}
}

func TestVarBytes(t *testing.T) {
	for _, c := range []struct {
		n    int
		want string
	}{
		{0, "\x00"},
		{1, "\x01"},
		{127, "\x7f"},
		{128, "\x80\x01"},
		{300, "\xac\x02"},
		{16383, "\xff\x7f"},
		{16384, "\x80\x80\x01"},
		{impl.MaxVar, "\xff\xff\xff\xff\xff\xff\x7f"},
		{impl.MaxVar + 1, ""},
		{math.MaxInt, ""},
		{-1, ""},
		{math.MinInt, ""},
	} {
		if got := impl.Var(c.n); got != c.want {
			t.Errorf("Var(%d) = %q, want %q", c.n, got, c.want)
		}
	}
	if impl.MaxVar != 1<<49-1 {
		t.Error("MaxVar", impl.MaxVar)
	}
}

func TestVarIsRead(t *testing.T) {
	var numbers []int
	for n := range 70000 {
		numbers = append(numbers, n)
	}
	for bytes := 1; bytes <= 7; bytes++ {
		most := 1<<(7*bytes) - 1
		numbers = append(numbers, most-1, most, most/3, most/2+1)
		if got := len(impl.Var(most)); got != bytes {
			t.Errorf("Var(%d) has %d bytes, want %d", most, got, bytes)
		}
		if got := len(impl.Var(most + 1)); bytes < 7 && got != bytes+1 {
			t.Errorf("Var(%d) has %d bytes, want %d", most+1, got, bytes+1)
		}
	}
	for _, n := range numbers {
		s := impl.Var(n)
		for _, more := range behind {
			if got, size := impl.ReadVar(s + more); got != n || size != len(s) {
				t.Fatalf("ReadVar(%q) = %d, %d, want %d, %d", s+more, got, size, n, len(s))
			}
		}
	}
}

func TestReadVarRefuses(t *testing.T) {
	for _, s := range []string{
		"",
		"\x80",
		"\xff\xff\xff\xff\xff\xff",
		"\xff\xff\xff\xff\xff\xff\xff",
		"\x80\x00",
		"\x81\x00",
		"\xff\x00abc",
		"\x80\x80\x00",
		"\xff\xff\xff\xff\xff\xff\x00",
		"\x80\x80\x80\x80\x80\x80\x80\x01",
		"\xff\xff\xff\xff\xff\xff\xff\x7f",
		"\xff\xff\xff\xff\xff\xff\xff\x00",
		"\x80\x80\x80\x80\x80\x80\x80\x80\x80\x01",
		strings.Repeat("\x80", 100) + "\x01",
	} {
		if n, size := impl.ReadVar(s); n != 0 || size != 0 {
			t.Errorf("ReadVar(%q) = %d, %d, want 0, 0", s, n, size)
		}
	}
}

// varAhead tells the number by the document's words alone: some beginning of s is its Var.
func varAhead(s string) (int, int) {
	for size := 1; size <= min(len(s), 7); size++ {
		n := 0
		for i := size - 1; i >= 0; i-- {
			n = n*128 + int(s[i])%128
		}
		if impl.Var(n) == s[:size] {
			return n, size
		}
	}
	return 0, 0
}

func TestReadVarTakesWhatVarMakes(t *testing.T) {
	all := make([]byte, 256)
	for i := range all {
		all[i] = byte(i)
	}
	check := func(s string) {
		n, size := varAhead(s)
		if got, took := impl.ReadVar(s); got != n || took != size {
			t.Errorf("ReadVar(%q) = %d, %d, want %d, %d", s, got, took, n, size)
		}
	}
	textsOf(string(all), 2, check)
	textsOf("\x00\x01\x7f\x80\xff", 7, check)
	textsOf("\x00\x01\x80", 9, check)
}

func TestHexBytes(t *testing.T) {
	for _, c := range []struct{ s, want string }{
		{"", ""},
		{"\x00", "00"},
		{"\x0f\xf0", "0ff0"},
		{"a\xff", "61ff"},
		{"\x9a\xbc\xde", "9abcde"},
		{"123456789", "313233343536373839"},
	} {
		if got := impl.Hex(c.s); got != c.want {
			t.Errorf("Hex(%q) = %q, want %q", c.s, got, c.want)
		}
	}
}

func TestHexIsRead(t *testing.T) {
	check := func(s string) {
		if got, ok := impl.Unhex(impl.Hex(s)); got != s || !ok {
			t.Errorf("Unhex(Hex(%q)) = %q, %v", s, got, ok)
		}
	}
	whole := ""
	for b := range 256 {
		s := string([]byte{byte(b)})
		check(s)
		check("\x00" + s)
		check(s + "z")
		whole += s
	}
	check("")
	check(whole)
	check(strings.Repeat(whole, 40))
}

func TestUnhexTakesWhatHexMakes(t *testing.T) {
	for a := range 256 {
		for b := range 256 {
			s := string([]byte{byte(a), byte(b)})
			good := strings.IndexByte("0123456789abcdef", s[0]) >= 0 && strings.IndexByte("0123456789abcdef", s[1]) >= 0
			got, ok := impl.Unhex(s)
			if ok != good || ok && impl.Hex(got) != s || !ok && got != "" {
				t.Errorf("Unhex(%q) = %q, %v", s, got, ok)
			}
		}
	}
	for _, s := range []string{"0", "f", "616", "6F", "F6", "61FF", "61fG", "61 1", " 61", "61\n", "0x61", "-1", "616g", "g616", "61\x0061"} {
		if got, ok := impl.Unhex(s); got != "" || ok {
			t.Errorf("Unhex(%q) = %q, %v", s, got, ok)
		}
	}
}

func TestDecDigits(t *testing.T) {
	numbers := []int{math.MinInt, math.MinInt + 1, math.MaxInt, math.MaxInt - 1, impl.MaxVar, -120, 120, 7, -7}
	power := 1
	for range 19 {
		numbers = append(numbers, power-1, power, power+1, 1-power, -power, -power-1)
		power *= 10
	}
	for n := -1100; n <= 1100; n++ {
		numbers = append(numbers, n)
	}
	for _, n := range numbers {
		if got := impl.Dec(n); got != strconv.Itoa(n) {
			t.Errorf("Dec(%d) = %q", n, got)
		}
	}
}

func TestDecIsRead(t *testing.T) {
	numbers := []int{999999999, -999999999, 999999998, 100000000, -100000000, 99999999, 123456789, -987654321, 1020304050 / 10}
	for n := -2000; n <= 2000; n++ {
		numbers = append(numbers, n)
	}
	for _, n := range numbers {
		if got, ok := impl.ReadDec(impl.Dec(n)); got != n || !ok {
			t.Errorf("ReadDec(%q) = %d, %v", impl.Dec(n), got, ok)
		}
	}
	for _, n := range []int{1000000000, -1000000000, 4294967296, impl.MaxVar, math.MaxInt, math.MinInt} {
		if got, ok := impl.ReadDec(impl.Dec(n)); got != 0 || ok {
			t.Errorf("ReadDec(%q) = %d, %v", impl.Dec(n), got, ok)
		}
	}
}

func TestReadDecTakesWhatDecMakes(t *testing.T) {
	textsOf("-0123459+ a", 4, func(s string) {
		want, err := strconv.Atoi(s)
		good := err == nil && impl.Dec(want) == s
		if !good {
			want = 0
		}
		if got, ok := impl.ReadDec(s); got != want || ok != good {
			t.Errorf("ReadDec(%q) = %d, %v, want %d, %v", s, got, ok, want, good)
		}
	})
	for _, s := range []string{
		"", "-", "--1", "-0", "-00", "00", "01", "-01", "007", "000000000", "0000000000", "000000001",
		"+1", "+0", "+", " 1", "1 ", "1\n", "1.0", "1e3", "0x1", "1_0", "12-", "1:", "1/", "\x00", "1\x00",
		"1000000000", "-1000000000", "0999999999", "99999999999999999999", "\xd9\xa1",
	} {
		if got, ok := impl.ReadDec(s); got != 0 || ok {
			t.Errorf("ReadDec(%q) = %d, %v", s, got, ok)
		}
	}
}
