package tests

import (
	"strings"
	"testing"

	"loop.example/g00773/impl"
)

// crcBySteps is the sum in the document's own words, a bit at a time.
func crcBySteps(s string) int {
	c := 4294967295
	for i := range len(s) {
		c ^= int(s[i])
		for range 8 {
			odd := c%2 == 1
			c /= 2
			if odd {
				c ^= 2197175160
			}
		}
	}
	return 4294967295 - c
}

// mixedText has all bytes, in an order that does not come back soon.
func mixedText(length int) string {
	out := make([]byte, length)
	x := uint32(1)
	for i := range out {
		x = x*1664525 + 1013904223
		out[i] = byte(x >> 24)
	}
	return string(out)
}

func withByte(s string, at int, b byte) string {
	return s[:at] + string([]byte{b}) + s[at+1:]
}

func wantCrc(t *testing.T, s string) {
	t.Helper()
	if got, want := impl.Crc(s), crcBySteps(s); got != want {
		t.Errorf("Crc of %d bytes, %.40q: %d, want %d", len(s), s, got, want)
	}
}

func TestCrcKnownSums(t *testing.T) {
	rising := make([]byte, 32)
	falling := make([]byte, 32)
	for i := range rising {
		rising[i], falling[i] = byte(i), byte(31-i)
	}
	for _, c := range []struct {
		s    string
		want int
	}{
		{"", 0},
		{"123456789", 3808858755},
		{"a", 0xc1d04330},
		{"abc", 0x364b3fb7},
		{"The quick brown fox jumps over the lazy dog", 0x22620404},
		{"\x00", 0x527d5351},
		{"\xff", 0xff000000},
		{"\xff\xff\xff\xff", 0xffffffff},
		{strings.Repeat("\x00", 32), 0x8a9136aa},
		{strings.Repeat("\xff", 32), 0x62a8ab43},
		{string(rising), 0x46dd794e},
		{string(falling), 0x113fdb5c},
	} {
		if got := impl.Crc(c.s); got != c.want {
			t.Errorf("Crc(%q) = %#x, want %#x", c.s, got, c.want)
		}
	}
}

func TestCrcNoBytes(t *testing.T) {
	wantCrc(t, "")
	wantCrc(t, "abc"[1:1])
	if got := impl.Crc(string([]byte(nil))); got != 0 {
		t.Errorf("Crc of no bytes = %d", got)
	}
}

func TestCrcEachByte(t *testing.T) {
	seen := map[int]int{impl.Crc(""): -1}
	for b := range 256 {
		s := string([]byte{byte(b)})
		wantCrc(t, s)
		if other, ok := seen[impl.Crc(s)]; ok {
			t.Errorf("bytes %d and %d have one sum", b, other)
		}
		seen[impl.Crc(s)] = b
	}
}

func TestCrcBytePairs(t *testing.T) {
	seen := map[int]string{}
	for n := range 1 << 16 {
		s := string([]byte{byte(n >> 8), byte(n)})
		wantCrc(t, s)
		if other, ok := seen[impl.Crc(s)]; ok {
			t.Fatalf("%q and %q have one sum", s, other)
		}
		seen[impl.Crc(s)] = s
	}
}

func TestCrcNoughtsAndFullBytes(t *testing.T) {
	textsOf("\x00\xff", 9, func(s string) { wantCrc(t, s) })
	textsOf("\x00\x01\x7f\x80\xff", 5, func(s string) { wantCrc(t, s) })
	for _, edge := range []string{"\x00", "\xff", "\x00\x00\x00\x00", "\xff\xff\xff\xff", "\x00\xff", "\xff\x00"} {
		for _, s := range []string{"a", "123456789", mixedText(100)} {
			wantCrc(t, edge+s)
			wantCrc(t, s+edge)
			wantCrc(t, edge+s+edge)
			wantCrc(t, s+edge+s)
		}
	}
}

// A sum that began with 0, or was not turned at the end, would not count noughts.
func TestCrcCountsAlikeBytes(t *testing.T) {
	for _, b := range []string{"\x00", "\xff"} {
		seen := map[int]int{}
		for n := range 600 {
			s := strings.Repeat(b, n)
			wantCrc(t, s)
			if other, ok := seen[impl.Crc(s)]; ok {
				t.Errorf("%d and %d times %q have one sum", n, other, b)
			}
			seen[impl.Crc(s)] = n
		}
	}
}

func TestCrcOfEachLength(t *testing.T) {
	all := mixedText(700)
	for n := range len(all) {
		wantCrc(t, all[:n])
		wantCrc(t, all[n:])
	}
}

func TestCrcLongText(t *testing.T) {
	for _, s := range []string{
		mixedText(1<<20 + 3),
		strings.Repeat("\x00", 1<<20),
		strings.Repeat("\xff", 1<<20+1),
	} {
		wantCrc(t, s)
		for _, at := range []int{0, 1, len(s) / 2, len(s) - 2, len(s) - 1} {
			other := withByte(s, at, s[at]^128)
			wantCrc(t, other)
			if impl.Crc(other) == impl.Crc(s) {
				t.Errorf("long texts that differ at %d have one sum", at)
			}
		}
	}
}

func TestCrcOneByteDiffers(t *testing.T) {
	for _, s := range []string{
		"a", "\x00", "\xff", "ab", "\x00\x00\x00", "\xff\xff\xff", "123456789",
		strings.Repeat("\x00", 40), strings.Repeat("\xff", 41), mixedText(64), mixedText(257),
	} {
		for at := range len(s) {
			// At one place no two of the 256 texts may share a sum, so each is held against all the others.
			seen := map[int]int{}
			for b := range 256 {
				sum := impl.Crc(withByte(s, at, byte(b)))
				if other, ok := seen[sum]; ok {
					t.Errorf("%.40q with byte %d or %d at %d has one sum", s, b, other, at)
				}
				seen[sum] = b
			}
		}
	}
}

func TestCrcFitsFourBytes(t *testing.T) {
	for n := range 3000 {
		sum := impl.Crc(impl.Dec(n))
		if sum < 0 || sum > 4294967295 {
			t.Errorf("Crc(%q) = %d", impl.Dec(n), sum)
		}
		if got, ok := impl.ReadFixed(impl.Fixed(sum, 4), 4); !ok || got != sum {
			t.Errorf("Crc(%q) = %d, read from four bytes as %d", impl.Dec(n), sum, got)
		}
	}
}

func TestCrcKeepsNothing(t *testing.T) {
	first := impl.Crc("123456789")
	impl.Crc("something else")
	impl.Crc("")
	if again := impl.Crc("123456789"); again != first {
		t.Errorf("the same text has %d, then %d", first, again)
	}
}
