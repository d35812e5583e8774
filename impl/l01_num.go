package impl

const MaxVar = 562949953421311

const (
	maxWidth  = 7  // an eighth byte would reach the sign of an int
	varBytes  = 7  // seven bits each are all bits of MaxVar
	intDigits = 19 // of the greatest int, and of the least
	decDigits = 9  // the most that ReadDec takes
	hexDigits = "0123456789abcdef"
)

func widthOk(width int) bool { return 1 <= width && width <= maxWidth }

func Fixed(n int, width int) string {
	if !widthOk(width) || n < 0 || n>>(8*width) != 0 {
		return ""
	}
	out := make([]byte, width)
	for i := range width {
		out[width-1-i] = byte(n >> (8 * i))
	}
	return string(out)
}

func ReadFixed(s string, width int) (int, bool) {
	if !widthOk(width) || len(s) < width {
		return 0, false
	}
	n := 0
	for i := range width {
		n = n<<8 | int(s[i])
	}
	return n, true
}

func Var(n int) string {
	if n < 0 || n > MaxVar {
		return ""
	}
	out := make([]byte, 0, varBytes)
	for range varBytes {
		if n < 128 {
			break
		}
		out = append(out, byte(n%128+128))
		n /= 128
	}
	return string(append(out, byte(n)))
}

func ReadVar(s string) (int, int) {
	n := 0
	for i := range min(len(s), varBytes) {
		b := int(s[i])
		n |= (b % 128) << (7 * i)
		if b >= 128 {
			continue
		}
		if b == 0 && i > 0 {
			// The bytes ahead say the same number without this one.
			return 0, 0
		}
		return n, i + 1
	}
	return 0, 0
}

func Hex(s string) string {
	out := make([]byte, 0, 2*len(s))
	for i := range len(s) {
		out = append(out, hexDigits[s[i]/16], hexDigits[s[i]%16])
	}
	return string(out)
}

func Unhex(s string) (string, bool) {
	if len(s)%2 != 0 {
		return "", false
	}
	size := len(s) / 2
	out := make([]byte, 0, size)
pairs:
	for i := range size {
		b := 0
		for j := range 2 {
			d := hexDigit(s[2*i+j])
			if d < 0 {
				break pairs
			}
			b = 16*b + d
		}
		out = append(out, byte(b))
	}
	if len(out) < size {
		return "", false
	}
	return string(out), true
}

// hexDigit tells -1 of a capital letter: Hex never makes one.
func hexDigit(c byte) int {
	switch {
	case isDigit(c):
		return int(c - '0')
	case 'a' <= c && c <= 'f':
		return int(c-'a') + 10
	}
	return -1
}

func isDigit(c byte) bool { return '0' <= c && c <= '9' }

func Dec(n int) string {
	// Without a sign, since the least int has no int for its opposite.
	rest := uint64(n)
	if n < 0 {
		rest = -rest
	}
	var room [1 + intDigits]byte
	at := len(room)
	for range intDigits {
		at--
		room[at] = '0' + byte(rest%10)
		rest /= 10
		if rest == 0 {
			break
		}
	}
	if n < 0 {
		at--
		room[at] = '-'
	}
	return string(room[at:])
}

func ReadDec(s string) (int, bool) {
	if len(s) > 0 && s[0] == '-' {
		n, ok := readDigits(s[1:])
		// Dec makes no -0.
		return -n, ok && n > 0
	}
	return readDigits(s)
}

func readDigits(s string) (int, bool) {
	if len(s) < 1 || len(s) > decDigits {
		return 0, false
	}
	n, ok := 0, true
digits:
	for i := range len(s) {
		switch c := s[i]; {
		case !isDigit(c), i > 0 && n == 0: // a nought that leads on is needless
			n, ok = 0, false
			break digits
		default:
			n = 10*n + int(c-'0')
		}
	}
	return n, ok
}
