package impl

import (
	"strconv"
	"strings"
)

const (
	MaxText   = 20000
	MaxNumber = 1000000000
	MaxWords  = 600
	MaxParts  = 10
)

// MaxNumber fills no more bytes, and no more figures, than these; what is
// longer is refused ahead of reckoning, so that nothing can wrap round.
const (
	maxVarBytes = 5
	maxFigures  = 10
)

func VarText(n int) (string, bool) {
	if n < 0 || n > MaxNumber {
		return "", false
	}
	out := make([]byte, 0, maxVarBytes)
	for n > 127 {
		out = append(out, byte(n%128)|128)
		n /= 128
	}
	return string(append(out, byte(n))), true
}

func ReadVar(text string, at int) (int, int, bool) {
	if at < 0 || at > len(text) {
		return 0, 0, false
	}
	n, behind, whole := readGroups(text, at)
	if !whole {
		return 0, 0, false
	}
	// A longer form tells the same number in other bytes: only those that
	// would be written count.
	written, fine := VarText(n)
	if !fine || written != text[at:behind] {
		return 0, 0, false
	}
	return n, behind, true
}

// readGroups puts groups of seven bits together up to the first byte without
// 128, in whatever form; false when there is no such byte near enough.
func readGroups(text string, at int) (int, int, bool) {
	n := 0
	for i := 0; i < maxVarBytes && at+i < len(text); i++ {
		c := text[at+i]
		n |= int(c&127) << (7 * i)
		if c < 128 {
			return n, at + i + 1, true
		}
	}
	return 0, 0, false
}

func ShortText(s string) (string, bool) {
	if len(s) > MaxText {
		return "", false
	}
	head, fine := VarText(len(s))
	return head + s, fine
}

func ReadShort(text string, at int) (string, int, bool) {
	n, from, fine := ReadVar(text, at)
	if !fine || n > MaxText || n > len(text)-from {
		return "", 0, false
	}
	return strings.Clone(text[from : from+n]), from + n, true
}

func Hex(text string) (string, bool) {
	if len(text) > MaxText {
		return "", false
	}
	const figures = "0123456789abcdef"
	out := make([]byte, 0, 2*len(text))
	for _, c := range []byte(text) {
		out = append(out, figures[c>>4], figures[c&15])
	}
	return string(out), true
}

func Unhex(text string) (string, bool) {
	if len(text) > 2*MaxText || len(text)%2 != 0 {
		return "", false
	}
	values, fine := figuresOf(text, 16)
	if !fine {
		return "", false
	}
	out := make([]byte, 0, len(values)/2)
	for i := 0; i < len(values); i += 2 {
		out = append(out, values[i]<<4|values[i+1])
	}
	return string(out), true
}

// figuresOf tells the value of each figure of a base, 10 or 16; false when a
// byte is none of its figures.
func figuresOf(text string, base int) ([]byte, bool) {
	values := make([]byte, 0, len(text))
figures:
	for _, c := range []byte(text) {
		switch {
		case '0' <= c && c <= '9':
			values = append(values, c-'0')
		case base == 16 && 'a' <= c && c <= 'f':
			values = append(values, c-'a'+10)
		default:
			break figures
		}
	}
	return values, len(values) == len(text)
}

func Decimal(n int) string {
	return strconv.Itoa(n)
}

func ReadDecimal(text string) (int, bool) {
	if len(text) == 0 || len(text) > maxFigures {
		return 0, false
	}
	if text[0] == '0' && len(text) > 1 {
		return 0, false
	}
	values, fine := figuresOf(text, 10)
	if !fine {
		return 0, false
	}
	n := 0
	for _, v := range values {
		n = 10*n + int(v)
	}
	if n > MaxNumber {
		return 0, false
	}
	return n, true
}

func PartsOf(line string) ([]string, bool) {
	if len(line) > MaxWords || !allPrinted(line) {
		return []string{}, false
	}
	parts := cutAtBlanks(line)
	if len(parts) > MaxParts {
		return []string{}, false
	}
	return parts, true
}

func allPrinted(line string) bool {
	for _, c := range []byte(line) {
		if c < 32 || c > 126 {
			return false
		}
	}
	return true
}

func cutAtBlanks(line string) []string {
	parts := []string{}
	from := 0
	for i := range len(line) + 1 {
		if i < len(line) && line[i] != ' ' {
			continue
		}
		if from < i {
			parts = append(parts, strings.Clone(line[from:i]))
		}
		from = i + 1
	}
	return parts
}
