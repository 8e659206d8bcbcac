package tests

import (
	"math"
	"slices"
	"strconv"
	"strings"
	"testing"

	"loop.example/g00287/impl"
)

// numbersToTry has the limits of every length in bytes and in figures, and
// what lies next to them.
func numbersToTry() []int {
	list := []int{0, 1, 5, 300, 123456789, impl.MaxNumber - 1, impl.MaxNumber}
	for limit := 128; limit < impl.MaxNumber; limit *= 128 {
		list = append(list, limit-1, limit, limit+1)
	}
	for limit := 10; limit < impl.MaxNumber; limit *= 10 {
		list = append(list, limit-1, limit, limit+1)
	}
	return list
}

var wrongNumbers = []int{-1, -128, math.MinInt, impl.MaxNumber + 1, 1 << 32, math.MaxInt}

// allBytes has every byte once.
func allBytes() string {
	b := make([]byte, 256)
	for i := range b {
		b[i] = byte(i)
	}
	return string(b)
}

func TestWordsLimits(t *testing.T) {
	if impl.MaxText != 20000 || impl.MaxNumber != 1000000000 || impl.MaxWords != 600 || impl.MaxParts != 10 {
		t.Error("a limit is not what the document says")
	}
}

func TestVarTextWrites(t *testing.T) {
	for _, c := range []struct {
		n    int
		want string
	}{
		{0, "\x00"}, {1, "\x01"}, {127, "\x7f"}, {128, "\x80\x01"}, {129, "\x81\x01"}, {300, "\xac\x02"},
		{16383, "\xff\x7f"}, {16384, "\x80\x80\x01"}, {2097151, "\xff\xff\x7f"}, {2097152, "\x80\x80\x80\x01"},
		{268435455, "\xff\xff\xff\x7f"}, {268435456, "\x80\x80\x80\x80\x01"},
		{impl.MaxNumber, "\x80\x94\xeb\xdc\x03"},
	} {
		if got, ok := impl.VarText(c.n); !ok || got != c.want {
			t.Errorf("VarText(%d) = %q, %v, not %q", c.n, got, ok, c.want)
		}
	}
}

func TestVarTextRefuses(t *testing.T) {
	for _, n := range wrongNumbers {
		if got, ok := impl.VarText(n); ok || got != "" {
			t.Errorf("VarText(%d) = %q, %v", n, got, ok)
		}
	}
}

func TestReadVarReadsBack(t *testing.T) {
	for _, n := range numbersToTry() {
		s, _ := impl.VarText(n)
		for _, ahead := range []string{"", "\x00", "\x80", "\xff\xff", "ab"} {
			for _, behind := range []string{"", "\x00", "\x80", "\xff", "xyz"} {
				got, at, ok := impl.ReadVar(ahead+s+behind, len(ahead))
				if !ok || got != n || at != len(ahead)+len(s) {
					t.Errorf("ReadVar(%q, %d) = %d, %d, %v, not %d", ahead+s+behind, len(ahead), got, at, ok, n)
				}
			}
		}
	}
}

func TestReadVarRefuses(t *testing.T) {
	for _, c := range []struct {
		text string
		at   int
	}{
		{"", 0}, {"", -1}, {"", 1}, {"\x05", 1}, {"\x05", 2}, {"\x05", -1}, {"\x05\x05", 3},
		{"\x05", math.MinInt}, {"\x05", math.MaxInt},
		// cut off
		{"\x80", 0}, {"\xff\xff", 0}, {"\x80\x94\xeb\xdc", 0}, {"ab\xac", 2}, {"\xff\xff\xff\xff\xff", 0},
		// longer forms
		{"\x80\x00", 0}, {"\x85\x00", 0}, {"\xff\x00", 0}, {"\xac\x82\x00", 0}, {"\x80\x80\x00", 0},
		{"\x80\x80\x80\x80\x00", 0}, {"\x80\x80\x80\x80\x80\x00", 0}, {"\x80\x94\xeb\xdc\x83\x00", 0}, {"a\x80\x00", 1},
		{"\x81\x80\x80\x80\x80\x80\x80\x80\x80\x00", 0},
		// above MaxNumber
		{"\x81\x94\xeb\xdc\x03", 0}, {"\x80\x94\xeb\xdc\x04", 0}, {"\xff\xff\xff\xff\x7f", 0}, {"\x80\x80\x80\x80\x80\x01", 0},
		{"\xff\xff\xff\xff\xff\xff\xff\xff\x7f", 0}, {"\x85\x80\x80\x80\x80\x80\x80\x80\x80\x01", 0},
		{"\x85\x80\x80\x80\x80\x80\x80\x80\x80\x02", 0}, {strings.Repeat("\x80", 100) + "\x01", 0},
	} {
		if n, at, ok := impl.ReadVar(c.text, c.at); ok || n != 0 || at != 0 {
			t.Errorf("ReadVar(%q, %d) = %d, %d, %v", c.text, c.at, n, at, ok)
		}
	}
}

// Every text of up to two bytes: a number is read just where one is written.
func TestReadVarReadsWhatIsWritten(t *testing.T) {
	written := map[string]int{}
	for n := range 128 * 128 {
		s, _ := impl.VarText(n)
		written[s] = n
	}
	texts := []string{""}
	for i := range 256 {
		texts = append(texts, string([]byte{byte(i)}))
		for j := range 256 {
			texts = append(texts, string([]byte{byte(i), byte(j)}))
		}
	}
	for _, text := range texts {
		wantN, wantAt, want := 0, 0, false
		for end := range len(text) + 1 {
			if n, there := written[text[:end]]; there {
				wantN, wantAt, want = n, end, true
			}
		}
		if n, at, ok := impl.ReadVar(text, 0); n != wantN || at != wantAt || ok != want {
			t.Fatalf("ReadVar(%q, 0) = %d, %d, %v, not %d, %d, %v", text, n, at, ok, wantN, wantAt, want)
		}
	}
}

func shortTextsToTry() []string {
	list := []string{"", "a", "\x00", "\x80", "hello there\r\n", allBytes()}
	for _, n := range []int{127, 128, 16383, 16384, impl.MaxText - 1, impl.MaxText} {
		list = append(list, strings.Repeat("m", n))
	}
	return list
}

func TestShortTextWrites(t *testing.T) {
	for _, s := range shortTextsToTry() {
		head, _ := impl.VarText(len(s))
		if got, ok := impl.ShortText(s); !ok || got != head+s {
			t.Errorf("ShortText of %d bytes: %v, not its length and it", len(s), ok)
		}
	}
	if got, ok := impl.ShortText("abc"); !ok || got != "\x03abc" {
		t.Errorf("ShortText(abc) = %q, %v", got, ok)
	}
}

func TestShortTextRefuses(t *testing.T) {
	for _, n := range []int{impl.MaxText + 1, 2 * impl.MaxText} {
		if got, ok := impl.ShortText(strings.Repeat("m", n)); ok || got != "" {
			t.Errorf("ShortText of %d bytes: %d bytes, %v", n, len(got), ok)
		}
	}
}

func TestReadShortReadsBack(t *testing.T) {
	for _, s := range shortTextsToTry() {
		w, _ := impl.ShortText(s)
		for _, ahead := range []string{"", "\x00", "\x80", "ab"} {
			for _, behind := range []string{"", "\x00", "xyz"} {
				got, at, ok := impl.ReadShort(ahead+w+behind, len(ahead))
				if !ok || got != s || at != len(ahead)+len(w) {
					t.Errorf("ReadShort behind %q of %d bytes: %d bytes, %d, %v", ahead, len(s), len(got), at, ok)
				}
			}
		}
	}
}

func TestReadShortRefuses(t *testing.T) {
	above, _ := impl.VarText(impl.MaxText + 1)
	most, _ := impl.VarText(impl.MaxText)
	greatest, _ := impl.VarText(impl.MaxNumber)
	for _, c := range []struct {
		text string
		at   int
	}{
		{"", 0}, {"", -1}, {"", 1}, {"\x01a", 2}, {"\x01a", 3}, {"\x01a", -1}, {"\x00", math.MaxInt}, {"\x00", math.MinInt},
		// cut off
		{"\x01", 0}, {"\x03ab", 0}, {"zz\x03ab", 2}, {"\x80", 0}, {"\x80\x01" + strings.Repeat("m", 127), 0},
		{most + strings.Repeat("m", impl.MaxText-1), 0}, {greatest + "m", 0},
		// a longer form of its length
		{"\x80\x00", 0}, {"\x81\x00a", 0}, {"\x83\x80\x00abc", 0},
		// longer than MaxText
		{above + strings.Repeat("m", impl.MaxText+1), 0}, {above + strings.Repeat("m", 2*impl.MaxText), 0},
	} {
		if s, at, ok := impl.ReadShort(c.text, c.at); ok || s != "" || at != 0 {
			t.Errorf("ReadShort of %d bytes at %d: %d bytes, %d, %v", len(c.text), c.at, len(s), at, ok)
		}
	}
}

func TestHexWrites(t *testing.T) {
	for _, c := range []struct{ text, want string }{
		{"", ""}, {"\x00", "00"}, {"\x0f", "0f"}, {"\xf0", "f0"}, {"\xff", "ff"}, {"Az", "417a"}, {"\x9a\xbc\xde", "9abcde"},
	} {
		if got, ok := impl.Hex(c.text); !ok || got != c.want {
			t.Errorf("Hex(%q) = %q, %v, not %q", c.text, got, ok, c.want)
		}
	}
}

func TestHexReadsBack(t *testing.T) {
	for _, s := range shortTextsToTry() {
		h, ok := impl.Hex(s)
		if !ok || len(h) != 2*len(s) {
			t.Errorf("Hex of %d bytes: %d bytes, %v", len(s), len(h), ok)
		}
		if got, right := impl.Unhex(h); !right || got != s {
			t.Errorf("Unhex of the Hex of %d bytes: %d bytes, %v", len(s), len(got), right)
		}
	}
}

func TestHexRefuses(t *testing.T) {
	for _, n := range []int{impl.MaxText + 1, 2 * impl.MaxText} {
		if got, ok := impl.Hex(strings.Repeat("m", n)); ok || got != "" {
			t.Errorf("Hex of %d bytes: %d bytes, %v", n, len(got), ok)
		}
	}
}

func TestUnhexRefuses(t *testing.T) {
	for _, text := range []string{
		"0", "000", "abc", "0A", "A0", "FF", "0x", "g0", "0g", "00 0", " 00 ", "00\n0", "-1", "+1", "0/", "0:", "0`", "`0", "/0", ":0", "\x000", "\xff\xff",
		strings.Repeat("0", 2*impl.MaxText+1), strings.Repeat("0", 2*impl.MaxText+2), strings.Repeat("0", 2*impl.MaxText-1),
		strings.Repeat("0", 2*impl.MaxText-1) + "g",
	} {
		if got, ok := impl.Unhex(text); ok || got != "" {
			t.Errorf("Unhex of %d bytes (%.20q): %d bytes, %v", len(text), text, len(got), ok)
		}
	}
}

// Every pair of bytes: it is read just when both are figures.
func TestUnhexReadsFiguresAlone(t *testing.T) {
	const figures = "0123456789abcdef"
	for _, high := range []byte(allBytes()) {
		for _, low := range []byte(allBytes()) {
			h, l := strings.IndexByte(figures, high), strings.IndexByte(figures, low)
			want, right := "", h >= 0 && l >= 0
			if right {
				want = string([]byte{byte(16*h + l)})
			}
			text := string([]byte{high, low})
			if got, ok := impl.Unhex(text); got != want || ok != right {
				t.Fatalf("Unhex(%q) = %q, %v, not %q, %v", text, got, ok, want, right)
			}
		}
	}
}

func TestDecimalWrites(t *testing.T) {
	for _, c := range []struct {
		n    int
		want string
	}{
		{0, "0"}, {7, "7"}, {10, "10"}, {100, "100"}, {-1, "-1"}, {-10, "-10"}, {1000000000, "1000000000"}, {1000000001, "1000000001"},
		{math.MaxInt, "9223372036854775807"}, {math.MinInt, "-9223372036854775808"}, {math.MinInt + 1, "-9223372036854775807"},
	} {
		if got := impl.Decimal(c.n); got != c.want {
			t.Errorf("Decimal(%d) = %q, not %q", c.n, got, c.want)
		}
	}
}

func TestDecimalReadsBack(t *testing.T) {
	list := numbersToTry()
	for n := range 20000 {
		list = append(list, n)
	}
	for _, n := range list {
		if got, ok := impl.ReadDecimal(impl.Decimal(n)); !ok || got != n {
			t.Fatalf("ReadDecimal(Decimal(%d)) = %d, %v", n, got, ok)
		}
	}
}

func TestReadDecimalRefuses(t *testing.T) {
	list := []string{
		"", " ", "-", "+", "00", "01", "007", "0000000001", "-0", "-1", "+1", "+0", " 1", "1 ", "1 2", "1\n", "1.0", "1e3", "1_000", "0x1", "a", "1a", "a1", "f",
		"/", ":", "1/", "1:", "\x00", "1\x00", "\xff", "٣", "1000000001", "1000000010", "2000000000", "9999999999", "10000000000",
		"4294967296", "9223372036854775807", "9223372036854775808", "18446744073709551616", "18446744073709551617", strings.Repeat("9", 1000), strings.Repeat("0", 1000),
	}
	for _, n := range wrongNumbers {
		list = append(list, strconv.Itoa(n))
	}
	for _, text := range list {
		if got, ok := impl.ReadDecimal(text); ok || got != 0 {
			t.Errorf("ReadDecimal(%.30q) = %d, %v", text, got, ok)
		}
	}
}

func TestPartsOf(t *testing.T) {
	longest := strings.Repeat("w", impl.MaxWords)
	ten := []string{"1", "2", "3", "4", "5", "6", "7", "8", "9", "10"}
	for _, c := range []struct {
		line string
		want []string
	}{
		{"", nil}, {" ", nil}, {"     ", nil}, {strings.Repeat(" ", impl.MaxWords), nil},
		{"tick", []string{"tick"}}, {" tick", []string{"tick"}}, {"tick ", []string{"tick"}}, {"   tick   ", []string{"tick"}},
		{"tick 1 2", []string{"tick", "1", "2"}}, {" tick  1 2 ", []string{"tick", "1", "2"}}, {"a     b", []string{"a", "b"}},
		{"a a a", []string{"a", "a", "a"}}, {"! ~ !~", []string{"!", "~", "!~"}},
		{"1 2 3 4 5 6 7 8 9 10", ten}, {"  1 2 3  4 5 6 7 8 9 10  ", ten},
		{longest, []string{longest}}, {" " + longest[2:] + " ", []string{longest[2:]}},
	} {
		if got, ok := impl.PartsOf(c.line); !ok || !slices.Equal(got, c.want) {
			t.Errorf("PartsOf(%.40q) = %.40q, %v, not %.40q", c.line, got, ok, c.want)
		}
	}
}

func TestPartsOfRefuses(t *testing.T) {
	for _, line := range []string{
		strings.Repeat("w", impl.MaxWords+1), strings.Repeat(" ", impl.MaxWords+1), "w" + strings.Repeat(" ", impl.MaxWords),
		strings.Repeat("w", 100000),
		"1 2 3 4 5 6 7 8 9 10 11", " 1 2 3 4 5 6 7 8 9 10 11 ", strings.Repeat("w ", impl.MaxWords/2),
		"a\tb", "a\n", "a\r", "\x00", "a \x1f", "\x7f", "a \x7f b", "caf\xc3\xa9", "\x80", "\xff", "a\u00a0b",
	} {
		if got, ok := impl.PartsOf(line); ok || len(got) != 0 {
			t.Errorf("PartsOf(%.40q) = %.40q, %v", line, got, ok)
		}
	}
}

// Every byte amid a line: just 32 .. 126 may be there, and 32 alone stands between parts.
func TestPartsOfEveryByte(t *testing.T) {
	for _, c := range []byte(allBytes()) {
		line := "a" + string([]byte{c}) + "b"
		var want []string
		switch {
		case c == ' ':
			want = []string{"a", "b"}
		case c > 32 && c <= 126:
			want = []string{line}
		}
		if got, ok := impl.PartsOf(line); ok != (want != nil) || !slices.Equal(got, want) {
			t.Errorf("PartsOf(%q) = %q, %v, not %q", line, got, ok, want)
		}
	}
}
