package tests

import (
	"math"
	"strings"
	"testing"

	"loop.example/g00287/impl"
)

// sumBitByBit is the document's own words, without a table.
func sumBitByBit(sum uint32, text string) uint32 {
	for i := 0; i < len(text); i++ {
		sum ^= uint32(text[i])
		for range 8 {
			odd := sum%2 == 1
			sum /= 2
			if odd {
				sum ^= 3558460437
			}
		}
	}
	return sum
}

var sumsToTry = []uint32{0, 1, 2, 15, 16, 128, 255, 256, 65535, 1 << 31, 3558460437, math.MaxUint32 - 1, math.MaxUint32}

// textsToSum has texts of several lengths, up to the longest that is sealed.
func textsToSum() []string {
	return []string{
		"", "\x00", "\x00\x00", "a", "ab", "ba", "abc", "\xff\xff\xff\xff", "\x00\x00\x00\x00", "123456789",
		"mail that is never lost", allBytes(), strings.Repeat("\x80", 33), strings.Repeat("\x00", impl.MaxText),
		strings.Repeat("x\xffy\x01", impl.MaxText/4),
	}
}

func sealedOf(t *testing.T, text string) string {
	t.Helper()
	s, ok := impl.Sealed(text)
	if !ok {
		t.Fatalf("a text of %d bytes is not sealed", len(text))
	}
	return s
}

func refusesUnsealed(t *testing.T, what, text string) {
	t.Helper()
	if got, ok := impl.Unsealed(text); ok || got != "" {
		t.Errorf("%s is unsealed as a text of %d bytes, %v", what, len(got), ok)
	}
}

func TestSumMoreIsWhatTheDocumentSays(t *testing.T) {
	for _, sum := range sumsToTry {
		for _, text := range textsToSum() {
			if got, want := impl.SumMore(sum, text), sumBitByBit(sum, text); got != want {
				t.Errorf("SumMore of %d and %d bytes is %d, not %d", sum, len(text), got, want)
			}
		}
	}
}

func TestSumMoreOfEveryByte(t *testing.T) {
	for _, sum := range sumsToTry {
		for c := range 256 {
			text := string([]byte{byte(c)})
			if got, want := impl.SumMore(sum, text), sumBitByBit(sum, text); got != want {
				t.Errorf("SumMore(%d, %q) = %d, not %d", sum, text, got, want)
			}
		}
	}
}

func TestSumMoreOfKnownTexts(t *testing.T) {
	for _, c := range []struct {
		sum  uint32
		text string
		want uint32
	}{
		{0, "", 0}, {math.MaxUint32, "", math.MaxUint32}, {12345, "", 12345},
		{0, "\x00", 0}, {0, "\x00\x00\x00", 0}, {0, "\x80", 3558460437}, {0, "\x40", 1779230218 ^ 3558460437},
		{255, "\xff", 0}, {256, "\x00", 1},
	} {
		if got := impl.SumMore(c.sum, c.text); got != c.want {
			t.Errorf("SumMore(%d, %q) = %d, not %d", c.sum, c.text, got, c.want)
		}
	}
}

func TestSumOfStartsFull(t *testing.T) {
	if got := impl.SumOf(""); got != 4294967295 {
		t.Errorf("SumOf of nothing is %d", got)
	}
	// The inverse of the usual check value of this polynomial.
	if got := impl.SumOf("123456789"); got != ^uint32(0x87315576) {
		t.Errorf("SumOf of the figures 1 to 9 is %#x", got)
	}
	for _, text := range textsToSum() {
		if got, want := impl.SumOf(text), sumBitByBit(math.MaxUint32, text); got != want {
			t.Errorf("SumOf of %d bytes is %d, not %d", len(text), got, want)
		}
	}
}

func TestSumMoreGoesOn(t *testing.T) {
	for _, text := range textsToSum() {
		whole := impl.SumOf(text)
		step := 1 + len(text)/50
		for cut := 0; cut <= len(text); cut += step {
			if got := impl.SumMore(impl.SumOf(text[:cut]), text[cut:]); got != whole {
				t.Errorf("a text of %d bytes cut at %d has the sum %d, not %d", len(text), cut, got, whole)
			}
		}
	}
}

func TestSealedHasTheHighestByteFirst(t *testing.T) {
	for _, text := range textsToSum() {
		sum := sumBitByBit(math.MaxUint32, text)
		want := text + string([]byte{byte(sum / 16777216), byte(sum / 65536), byte(sum / 256), byte(sum)})
		if got := sealedOf(t, text); got != want {
			t.Errorf("Sealed of %d bytes ends with %q, not %q", len(text), got[len(got)-4:], want[len(text):])
		}
	}
	if got := sealedOf(t, ""); got != "\xff\xff\xff\xff" {
		t.Errorf("Sealed of nothing is %q", got)
	}
}

func TestSealedComesBack(t *testing.T) {
	for _, text := range textsToSum() {
		if got, ok := impl.Unsealed(sealedOf(t, text)); !ok || got != text {
			t.Errorf("a text of %d bytes comes back with %d bytes, %v", len(text), len(got), ok)
		}
	}
}

func TestSealedTwiceComesBackTwice(t *testing.T) {
	twice := sealedOf(t, sealedOf(t, "abc"))
	once, ok := impl.Unsealed(twice)
	if !ok || len(once) != 7 {
		t.Fatalf("%q is unsealed as %q, %v", twice, once, ok)
	}
	if got, ok := impl.Unsealed(once); !ok || got != "abc" {
		t.Errorf("%q is unsealed as %q, %v", once, got, ok)
	}
}

func TestSealedRefusesWhatIsTooLong(t *testing.T) {
	for _, n := range []int{impl.MaxText + 1, impl.MaxText + 4, 2 * impl.MaxText} {
		if got, ok := impl.Sealed(strings.Repeat("a", n)); ok || got != "" {
			t.Errorf("a text of %d bytes is sealed with %d bytes, %v", n, len(got), ok)
		}
	}
}

func TestUnsealedRefusesWhatIsTooLong(t *testing.T) {
	for _, n := range []int{impl.MaxText + 1, impl.MaxText + 2, 2 * impl.MaxText} {
		text := strings.Repeat("a", n)
		sum := sumBitByBit(math.MaxUint32, text)
		refusesUnsealed(t, "a text that no Sealed writes", text+string([]byte{byte(sum >> 24), byte(sum >> 16), byte(sum >> 8), byte(sum)}))
	}
}

func TestUnsealedRefusesWhatIsTooShort(t *testing.T) {
	for n := range 4 {
		for _, c := range []string{"\x00", "\xff", "a"} {
			refusesUnsealed(t, "a text of less than four bytes", strings.Repeat(c, n))
		}
	}
}

func TestUnsealedRefusesOneByteTurned(t *testing.T) {
	for _, text := range []string{"", "\x00", "abc", "\x00\x00\x00\x00\x00", "\xff\xff\xff\xff", "mail that is never lost"} {
		s := sealedOf(t, text)
		for i := range s {
			for c := range 256 {
				turned := s[:i] + string([]byte{byte(c)}) + s[i+1:]
				if turned != s {
					refusesUnsealed(t, "a text with one byte turned", turned)
				}
			}
		}
	}
}

func TestUnsealedRefusesOneByteTurnedInALongText(t *testing.T) {
	s := sealedOf(t, strings.Repeat("never lost", impl.MaxText/10))
	for i := 0; i < len(s); i += 997 {
		for _, turn := range []byte{1, 16, 128, 255} {
			refusesUnsealed(t, "a long text with one byte turned", s[:i]+string([]byte{s[i] ^ turn})+s[i+1:])
		}
	}
}

func TestUnsealedRefusesWhatIsCutOrHasMore(t *testing.T) {
	for _, text := range []string{"", "\x00", "abc", "\x00\x00\x00\x00\x00", "mail that is never lost"} {
		s := sealedOf(t, text)
		for n := range len(s) {
			refusesCut(t, text, s[:n])
		}
		for c := range 256 {
			refusesCut(t, text, s+string([]byte{byte(c)}))
			refusesCut(t, text, string([]byte{byte(c)})+s)
		}
	}
}

// refusesCut asks for what the document's words make of such a text: refused,
// unless it happens to be another one's Sealed.
func refusesCut(t *testing.T, text, cut string) {
	t.Helper()
	if got, ok := impl.Unsealed(cut); ok {
		if again, _ := impl.Sealed(got); got == text || again != cut {
			t.Errorf("%q is unsealed as %q, of which it is no Sealed", cut, got)
		}
	} else if got != "" {
		t.Errorf("%q is refused with %q", cut, got)
	}
}

func TestUnsealedIsThereForSealedAlone(t *testing.T) {
	for _, s := range []string{"abcd", "\x00\x00\x00\x00", "\xff\xff\xff\xfe", "abc\x00\x00\x00\x00", "abc\xff\xff\xff\xff", allBytes()} {
		refusesUnsealed(t, "a text with any four bytes at its end", s)
	}
	s := sealedOf(t, "abc")
	refusesUnsealed(t, "a sum with its lowest byte first", "abc"+string([]byte{s[6], s[5], s[4], s[3]}))
}
