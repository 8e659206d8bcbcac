package tests

import (
	"fmt"
	"slices"
	"strconv"
	"strings"
	"sync"
	"testing"

	"loop.example/g00287/impl"
)

// lineTaken is what TakeLine answers.
type lineTaken struct {
	line, rest string
	code       int
}

func (l lineTaken) String() string {
	return fmt.Sprintf("%.100q, %.100q, %d", l.line, l.rest, l.code)
}

// lineAsSaid and those below are the document's own words.
func lineAsSaid(buf string) lineTaken {
	end := strings.Index(buf, "\r\n")
	switch {
	case end > 80:
		return lineTaken{"", buf[80:], 2}
	case end >= 0:
		return lineTaken{buf[:end], buf[end+2:], 0}
	case len(buf) == 81 && buf[80] == 13:
		return lineTaken{"", buf, 1}
	case len(buf) > 80:
		return lineTaken{"", buf[80:], 2}
	}
	return lineTaken{"", buf, 1}
}

func lowAsSaid(s string) string {
	out := ""
	for i := range len(s) {
		if at := strings.IndexByte("ABCDEFGHIJKLMNOPQRSTUVWXYZ", s[i]); at >= 0 {
			out += "abcdefghijklmnopqrstuvwxyz"[at : at+1]
			continue
		}
		out += s[i : i+1]
	}
	return out
}

// takesLine asks for TakeLine as the document says it, and that no byte of buf
// is lost on the way.
func takesLine(t *testing.T, buf string) lineTaken {
	t.Helper()
	line, rest, code := impl.TakeLine(buf)
	got := lineTaken{line, rest, code}
	if want := lineAsSaid(buf); got != want {
		t.Errorf("TakeLine of %d bytes, %.200q, is %v; not %v", len(buf), buf, got, want)
	}
	whole := rest
	switch code {
	case 0:
		whole = line + "\r\n" + rest
	case impl.LineLong:
		whole = buf[:min(len(buf), impl.MaxLine)] + rest
	}
	if whole != buf {
		t.Errorf("TakeLine of %d bytes, %.200q, loses some: %v", len(buf), buf, got)
	}
	return got
}

// tooLong stands among the lines that are taken where LineLong was told.
const tooLong = "(too long)"

// takesAll takes lines until there is none, and tells them and what is left.
func takesAll(t *testing.T, buf string) ([]string, string) {
	t.Helper()
	lines := []string{}
	for {
		got := takesLine(t, buf)
		if got.code == impl.LineMore {
			return lines, got.rest
		}
		if got.code == impl.LineLong {
			got.line = tooLong
		}
		if len(got.rest) >= len(buf) {
			t.Fatalf("TakeLine of %d bytes leaves %d", len(buf), len(got.rest))
		}
		lines, buf = append(lines, got.line), got.rest
	}
}

// takesInPieces is handed one piece behind another, and takes what there is
// each time.
func takesInPieces(t *testing.T, pieces []string) ([]string, string) {
	t.Helper()
	lines, buf := []string{}, ""
	for _, piece := range pieces {
		more, rest := takesAll(t, buf+piece)
		lines, buf = append(lines, more...), rest
	}
	return lines, buf
}

// cutsOf draws pieces of a text, some of them empty.
func cutsOf(d *drawing, text string, most int) []string {
	pieces := []string{}
	for text != "" {
		n := min(len(text), d.below(most+1))
		pieces = append(pieces, text[:n])
		text = text[n:]
	}
	return pieces
}

func nBytes(n int) string {
	return strings.Repeat("x", n)
}

func TestLineLimits(t *testing.T) {
	if impl.MaxLine != 80 || impl.LineMore != 1 || impl.LineLong != 2 {
		t.Error("a limit or a code is not what the document says")
	}
}

func TestTakeLine(t *testing.T) {
	for _, c := range []struct {
		buf  string
		want lineTaken
	}{
		{"noop\r\n", lineTaken{"noop", "", 0}},
		{"noop\r\nmore", lineTaken{"noop", "more", 0}},
		{"a\r\nb\r\nc\r\n", lineTaken{"a", "b\r\nc\r\n", 0}},
		{" helo  ann \r\n", lineTaken{" helo  ann ", "", 0}},
		{".\r\n", lineTaken{".", "", 0}},
		{"\r\n", lineTaken{"", "", 0}},
		{"\r\n\r\n", lineTaken{"", "\r\n", 0}},
		{"\r\nnoop\r\n", lineTaken{"", "noop\r\n", 0}},
		{"", lineTaken{"", "", impl.LineMore}},
		{"n", lineTaken{"", "n", impl.LineMore}},
		{"noop", lineTaken{"", "noop", impl.LineMore}},
		{"noop\r", lineTaken{"", "noop\r", impl.LineMore}},
		{"noop\n", lineTaken{"", "noop\n", impl.LineMore}},
		{"\r", lineTaken{"", "\r", impl.LineMore}},
		{"\n", lineTaken{"", "\n", impl.LineMore}},
		{"\n\r", lineTaken{"", "\n\r", impl.LineMore}},
		{"a\n\rb", lineTaken{"", "a\n\rb", impl.LineMore}},
		{"a\rb\nc", lineTaken{"", "a\rb\nc", impl.LineMore}},
		{"\r\r", lineTaken{"", "\r\r", impl.LineMore}},
		{"\rnoop\r\n", lineTaken{"\rnoop", "", 0}},
		{"\nnoop\r\n", lineTaken{"\nnoop", "", 0}},
		{"no\rop\r\n", lineTaken{"no\rop", "", 0}},
		{"no\nop\r\n", lineTaken{"no\nop", "", 0}},
		{"no\n\rop\r\n", lineTaken{"no\n\rop", "", 0}},
		{"noop\r\r\n", lineTaken{"noop\r", "", 0}},
		{"noop\n\r\n", lineTaken{"noop\n", "", 0}},
		{"noop\r\n\n", lineTaken{"noop", "\n", 0}},
		{"noop\r\n\r", lineTaken{"noop", "\r", 0}},
		{"\r\r\n", lineTaken{"\r", "", 0}},
		{"\r\r\r\n", lineTaken{"\r\r", "", 0}},
		{"\n\n\r\n", lineTaken{"\n\n", "", 0}},
		{"\x00\t\x7f\x80\xff\r\n", lineTaken{"\x00\t\x7f\x80\xff", "", 0}},
		{"caf\u00e9 \u2028\r\n", lineTaken{"caf\u00e9 \u2028", "", 0}},
	} {
		if got := takesLine(t, c.buf); got != c.want {
			t.Errorf("TakeLine(%q) is %v, not %v", c.buf, got, c.want)
		}
	}
}

func TestTakeLineOfJustSoManyBytes(t *testing.T) {
	for _, c := range []struct {
		buf  string
		want lineTaken
	}{
		// with an end
		{nBytes(79) + "\r\n", lineTaken{nBytes(79), "", 0}},
		{nBytes(80) + "\r\n", lineTaken{nBytes(80), "", 0}},
		{nBytes(80) + "\r\nmore", lineTaken{nBytes(80), "more", 0}},
		{nBytes(80) + "\r\n" + nBytes(300), lineTaken{nBytes(80), nBytes(300), 0}},
		{nBytes(81) + "\r\n", lineTaken{"", "x\r\n", impl.LineLong}},
		{nBytes(81) + "\r\nmore", lineTaken{"", "x\r\nmore", impl.LineLong}},
		{nBytes(82) + "\r\n", lineTaken{"", "xx\r\n", impl.LineLong}},
		{nBytes(500) + "\r\n", lineTaken{"", nBytes(420) + "\r\n", impl.LineLong}},
		{nBytes(79) + "\r\r\n", lineTaken{nBytes(79) + "\r", "", 0}},
		{nBytes(80) + "\r\r\n", lineTaken{"", "\r\r\n", impl.LineLong}},
		{nBytes(80) + "\n\r\n", lineTaken{"", "\n\r\n", impl.LineLong}},
		{nBytes(80) + "\rx\r\n", lineTaken{"", "\rx\r\n", impl.LineLong}},
		{nBytes(78) + "\r\n\r\n", lineTaken{nBytes(78), "\r\n", 0}},
		// without one
		{nBytes(79), lineTaken{"", nBytes(79), impl.LineMore}},
		{nBytes(80), lineTaken{"", nBytes(80), impl.LineMore}},
		{nBytes(81), lineTaken{"", "x", impl.LineLong}},
		{nBytes(82), lineTaken{"", "xx", impl.LineLong}},
		{nBytes(500), lineTaken{"", nBytes(420), impl.LineLong}},
		{nBytes(79) + "\r", lineTaken{"", nBytes(79) + "\r", impl.LineMore}},
		{nBytes(79) + "\n", lineTaken{"", nBytes(79) + "\n", impl.LineMore}},
		{nBytes(80) + "\r", lineTaken{"", nBytes(80) + "\r", impl.LineMore}},
		{nBytes(80) + "\n", lineTaken{"", "\n", impl.LineLong}},
		{nBytes(80) + "\x00", lineTaken{"", "\x00", impl.LineLong}},
		{nBytes(80) + "\x0c", lineTaken{"", "\x0c", impl.LineLong}},
		{nBytes(80) + "\x0e", lineTaken{"", "\x0e", impl.LineLong}},
		{nBytes(79) + "\rx", lineTaken{"", "x", impl.LineLong}},
		{nBytes(79) + "\n\r", lineTaken{"", nBytes(79) + "\n\r", impl.LineMore}},
		{nBytes(79) + "\r\r", lineTaken{"", nBytes(79) + "\r\r", impl.LineMore}},
		{nBytes(81) + "\r", lineTaken{"", "x\r", impl.LineLong}},
		{nBytes(80) + "\r\r", lineTaken{"", "\r\r", impl.LineLong}},
		{nBytes(80) + "\n\r", lineTaken{"", "\n\r", impl.LineLong}},
		{nBytes(80) + "\rx", lineTaken{"", "\rx", impl.LineLong}},
		{strings.Repeat("\r", 80), lineTaken{"", strings.Repeat("\r", 80), impl.LineMore}},
		{strings.Repeat("\r", 81), lineTaken{"", strings.Repeat("\r", 81), impl.LineMore}},
		{strings.Repeat("\r", 82), lineTaken{"", "\r\r", impl.LineLong}},
		{strings.Repeat("\r", 81) + "\n", lineTaken{strings.Repeat("\r", 80), "", 0}},
		{strings.Repeat("\r", 82) + "\n", lineTaken{"", "\r\r\n", impl.LineLong}},
		{strings.Repeat("\n", 81), lineTaken{"", "\n", impl.LineLong}},
	} {
		if got := takesLine(t, c.buf); got != c.want {
			t.Errorf("TakeLine(%q) is %v, not %v", c.buf, got, c.want)
		}
	}
}

func TestTakeLineOfEveryLength(t *testing.T) {
	for n := range 400 {
		for _, behind := range []string{"", "\r", "\n", "\r\n", "\r\r\n", "\n\r", "\r\nmore", "\r\n" + nBytes(100) + "\r\n"} {
			takesLine(t, nBytes(n)+behind)
		}
	}
}

// Every short text of the bytes that matter and another one, behind as many
// bytes as bring it to each side of the limit.
func TestTakeLineOfEveryEnd(t *testing.T) {
	for _, ahead := range []int{0, 1, 70, 76, 77, 78, 79, 80, 81, 82, 160} {
		texts := []string{nBytes(ahead)}
		for len(texts[0]) <= ahead+5 {
			next := []string{}
			for _, text := range texts {
				takesLine(t, text)
				next = append(next, text+"\r", text+"\n", text+"y")
			}
			texts = next
		}
	}
}

func TestTakeLineOfEveryByte(t *testing.T) {
	for _, c := range []byte(allBytes()) {
		for _, line := range []string{string([]byte{c}), "a" + string([]byte{c}) + "b", nBytes(79) + string([]byte{c})} {
			if got := takesLine(t, line+"\r\nrest"); got != (lineTaken{line, "rest", 0}) {
				t.Errorf("a line with the byte %d is taken as %v", c, got)
			}
			takesLine(t, line)
		}
		takesLine(t, nBytes(80)+string([]byte{c}))
		takesLine(t, nBytes(80)+string([]byte{c})+"\r\n")
		takesLine(t, nBytes(80)+"\r"+string([]byte{c}))
	}
}

func TestLinesAreTakenOneByOne(t *testing.T) {
	most := nBytes(impl.MaxLine)
	for _, c := range []struct {
		buf   string
		lines []string
		rest  string
	}{
		{"", nil, ""}, {"noop", nil, "noop"}, {"noop\r\n", []string{"noop"}, ""}, {"noop\r\nqu", []string{"noop"}, "qu"}, {"noop\r\nquit\r", []string{"noop"}, "quit\r"},
		{"helo ann\r\nmail bob\r\nrcpt ann\r\ndata\r\n", []string{"helo ann", "mail bob", "rcpt ann", "data"}, ""},
		{"\r\n\r\n\r\n", []string{"", "", ""}, ""}, {"a\r\n\r\nb\r\n.\r\n", []string{"a", "", "b", "."}, ""},
		{most + "\r\n" + most + "\r\n" + most, []string{most, most}, most},
		// what is behind the first bytes of a line that is too long is a line
		// again, or too long again
		{nBytes(81) + "\r\nnoop\r\n", []string{tooLong, "x", "noop"}, ""},
		{nBytes(160) + "\r\nnoop\r\n", []string{tooLong, most, "noop"}, ""},
		{nBytes(161) + "\r\nnoop\r\n", []string{tooLong, tooLong, "x", "noop"}, ""},
		{nBytes(245) + "\r\n\r\n", []string{tooLong, tooLong, tooLong, "xxxxx", ""}, ""},
		{nBytes(80) + "\r\r\n\r\n", []string{tooLong, "\r", ""}, ""},
		{"noop\r\n" + nBytes(81), []string{"noop", tooLong}, "x"},
		{nBytes(400), []string{tooLong, tooLong, tooLong, tooLong}, most},
		{nBytes(401), []string{tooLong, tooLong, tooLong, tooLong, tooLong}, "x"},
		{nBytes(401) + "\r", []string{tooLong, tooLong, tooLong, tooLong, tooLong}, "x\r"},
	} {
		lines, rest := takesAll(t, c.buf)
		if !slices.Equal(lines, c.lines) || rest != c.rest {
			t.Errorf("of %.200q %.100q is taken, and %q left; not %.100q, and %q", c.buf, lines, rest, c.lines, c.rest)
		}
	}
}

// linesToSend draws lines with bytes that nearly are an end, but none that is.
func linesToSend(d *drawing, longest int) []string {
	lines := []string{}
	for range d.below(8) {
		line := ""
		for range d.of(0, 1, 5, 79, 80, d.below(longest+1), d.below(longest+1)) {
			c := string([]byte{byte(d.of('a', 'a', ' ', '.', 0, 9, 10, 13, 127, 255))})
			if strings.HasSuffix(line+c, "\r\n") {
				c = "\r"
			}
			line += c
		}
		lines = append(lines, line)
	}
	return lines
}

// Promise 16: lines come out as they were put in, however they come.
func TestLinesComeOutAsTheyWerePutIn(t *testing.T) {
	d := drawing(16)
	for range 600 {
		sent, last := linesToSend(&d, impl.MaxLine), d.of(0, 1, 79, 80)
		text := ""
		for _, line := range sent {
			text += line + "\r\n"
		}
		text += nBytes(last)
		for _, pieces := range [][]string{{text}, strings.Split(text, ""), cutsOf(&d, text, 3), cutsOf(&d, text, 100), cutsOf(&d, text, 300)} {
			lines, rest := takesInPieces(t, pieces)
			if !slices.Equal(lines, sent) || rest != nBytes(last) {
				t.Fatalf("of %q, in %d pieces, %q is taken, and %q left", sent, len(pieces), lines, rest)
			}
		}
	}
}

// Likewise where some are too long: what is told hangs on what came, not on
// how it came.
func TestLinesTooLongComeAlikeHoweverTheyCome(t *testing.T) {
	d := drawing(160)
	for range 400 {
		text := nBytes(d.of(0, 0, 80, 81, 160))
		for _, line := range linesToSend(&d, 4*impl.MaxLine) {
			text += line + "\r\n"
		}
		text += nBytes(d.of(0, 80, 81, 300)) + []string{"", "\r", "\n"}[d.below(3)]
		want, left := takesAll(t, text)
		for _, pieces := range [][]string{strings.Split(text, ""), cutsOf(&d, text, 2), cutsOf(&d, text, 90), cutsOf(&d, text, 400)} {
			lines, rest := takesInPieces(t, pieces)
			if !slices.Equal(lines, want) || rest != left {
				t.Fatalf("of %q, in %d pieces, %q is taken, and %q left; not %q, and %q", text, len(pieces), lines, rest, want, left)
			}
		}
	}
}

// Each cut of a line about as long as it may be, and of its end.
func TestLineOfJustSoManyBytesInTwoPieces(t *testing.T) {
	for n := 76; n <= 84; n++ {
		for _, end := range []string{"\r\n", "\r\r\n", "\n\r\n", "\r\n\r\n"} {
			text := nBytes(n) + end + "noop\r\n"
			want, left := takesAll(t, text)
			for at := range len(text) + 1 {
				if lines, rest := takesInPieces(t, []string{text[:at], text[at:]}); !slices.Equal(lines, want) || rest != left {
					t.Errorf("%d bytes and %q, cut at %d: %q, and %q left; not %q, and %q", n, end, at, lines, rest, want, left)
				}
			}
		}
	}
}

func TestTakeLineOfALongText(t *testing.T) {
	many := strings.Repeat("noop\r\n", 2000)
	if lines, rest := takesAll(t, many); len(lines) != 2000 || rest != "" {
		t.Errorf("of 2000 lines %d are taken, and %d bytes left", len(lines), len(rest))
	}
	for _, text := range []string{nBytes(100000), nBytes(100000) + "\r\n", nBytes(100000) + "\r\nnoop\r\n", strings.Repeat("\r", 50000), strings.Repeat("\n", 50000), strings.Repeat("\n\r", 50000), strings.Repeat("\r\n", 50000)} {
		takesLine(t, text)
	}
}

func TestWordsOf(t *testing.T) {
	ten := []string{"1", "2", "3", "4", "5", "6", "7", "8", "9", "10"}
	longest := strings.Repeat("w", impl.MaxWords)
	for _, c := range []struct {
		line string
		want []string
	}{
		{"", nil}, {" ", nil}, {"      ", nil}, {strings.Repeat(" ", impl.MaxWords), nil},
		{"quit", []string{"quit"}}, {" quit", []string{"quit"}}, {"quit ", []string{"quit"}}, {"   quit   ", []string{"quit"}},
		{"helo ann", []string{"helo", "ann"}}, {" a  b ", []string{"a", "b"}}, {"HeLo   Ann  ", []string{"HeLo", "Ann"}}, {"a a", []string{"a", "a"}},
		{"a1 login ann annx", []string{"a1", "login", "ann", "annx"}}, {"! ~ !~ .", []string{"!", "~", "!~", "."}},
		{strings.Join(ten, " "), ten}, {"  " + strings.Join(ten, "   ") + "  ", ten}, {longest, []string{longest}}, {nBytes(81), []string{nBytes(81)}},
	} {
		if got := impl.WordsOf(c.line); !slices.Equal(got, c.want) {
			t.Errorf("WordsOf(%.60q) is %.60q, not %.60q", c.line, got, c.want)
		}
	}
}

func TestWordsOfNothing(t *testing.T) {
	for _, line := range []string{
		"1 2 3 4 5 6 7 8 9 10 11", strings.Repeat(" w", 11), strings.Repeat("w", impl.MaxWords+1), strings.Repeat(" ", impl.MaxWords+1), "quit" + strings.Repeat(" ", impl.MaxWords),
		"helo\tann", "quit\n", "quit\r", "quit\r\n", "\x00", "quit \x1f", "\x7f", "a \x7f b", "helo caf\u00e9", "\x80", "quit \xff", "a\u00a0b",
	} {
		if got := impl.WordsOf(line); len(got) != 0 {
			t.Errorf("WordsOf(%.60q) is %.60q", line, got)
		}
	}
}

// Every byte amid a line: WordsOf is PartsOf where that is true, else nothing.
func TestWordsOfEveryByte(t *testing.T) {
	for _, c := range []byte(allBytes()) {
		for _, line := range []string{string([]byte{c}), "a" + string([]byte{c}) + "b", "a " + string([]byte{c}) + " b"} {
			var want []string
			if c >= 32 && c <= 126 {
				want = strings.Fields(line)
			}
			if got := impl.WordsOf(line); !slices.Equal(got, want) {
				t.Errorf("WordsOf(%q) is %q, not %q", line, got, want)
			}
		}
	}
}

func TestLowWord(t *testing.T) {
	for _, c := range []struct{ word, want string }{
		{"", ""}, {"quit", "quit"}, {"QUIT", "quit"}, {"QuIt", "quit"}, {"qUiT", "quit"}, {"A", "a"}, {"Z", "z"}, {"a", "a"}, {"z", "z"},
		{"ABCDEFGHIJKLMNOPQRSTUVWXYZ", "abcdefghijklmnopqrstuvwxyz"}, {"abcdefghijklmnopqrstuvwxyz", "abcdefghijklmnopqrstuvwxyz"},
		{"@A[Z`a{z", "@a[z`a{z"}, {"@[`{", "@[`{"}, {"A1-B2_C3", "a1-b2_c3"}, {" Two  WORDS ", " two  words "}, {"0123456789", "0123456789"},
		{"\x00A\tB\r\nC\x7fD", "\x00a\tb\r\nc\x7fd"}, {"\x80A\xc1B\xdaC\xffD", "\x80a\xc1b\xdac\xffd"},
		// letters of more than one byte, and bytes that are no letter at all
		{"\u00c4\u00d6\u00dcA", "\u00c4\u00d6\u00dca"}, {"\u0391\u0416B", "\u0391\u0416b"}, {"\u212a\u0130K", "\u212a\u0130k"}, {"\xc3", "\xc3"}, {"\ufffdX", "\ufffdx"}, {"\xed\xa0\x80Y", "\xed\xa0\x80y"},
		{strings.Repeat("Ab", 10000), strings.Repeat("ab", 10000)},
	} {
		if got := impl.LowWord(c.word); got != c.want {
			t.Errorf("LowWord(%.60q) is %.60q, not %.60q", c.word, got, c.want)
		}
	}
}

func TestLowWordOfEveryByte(t *testing.T) {
	for _, first := range []byte(allBytes()) {
		for _, second := range []byte(allBytes()) {
			s := string([]byte{first, second})
			if got := impl.LowWord(s); got != lowAsSaid(s) {
				t.Fatalf("LowWord(%q) is %q, not %q", s, got, lowAsSaid(s))
			}
		}
	}
	if got := impl.LowWord(allBytes()); got != lowAsSaid(allBytes()) {
		t.Errorf("LowWord of all bytes is %q", got)
	}
}

func TestNumberOf(t *testing.T) {
	for _, c := range []struct {
		s    string
		want int
	}{
		{"0", 0}, {"1", 1}, {"7", 7}, {"9", 9}, {"10", 10}, {"12", 12}, {"100", 100}, {"9999", 9999}, {"123456789", 123456789}, {"999999999", 999999999}, {"1000000000", 1000000000},
	} {
		if got := impl.NumberOf(c.s); got != c.want {
			t.Errorf("NumberOf(%q) is %d", c.s, got)
		}
	}
	for _, n := range numbersToTry() {
		if got := impl.NumberOf(strconv.Itoa(n)); got != n {
			t.Errorf("NumberOf(%d) is %d", n, got)
		}
	}
}

func TestNumberOfNone(t *testing.T) {
	list := []string{
		"", " ", "x", "1000000001", "1000000010", "2000000000", "9999999999", "10000000000", "4294967297", "9223372036854775808", "18446744073709551617", strings.Repeat("1", 1000),
		"00", "01", "007", "01000000000", "0000000001", "-0", "-1", "+1", "+0", "--1", " 1", "1 ", "1 2", "1\r\n", "1\n", "1.0", "1e3", "1_000", "0x1", "a", "1a", "a1", "f1", "/", ":", "1/", "1:", "\x001", "1\x00", "\xff", "\u0663",
	}
	for _, n := range wrongNumbers {
		list = append(list, strconv.Itoa(n))
	}
	for _, s := range list {
		if got := impl.NumberOf(s); got != 0 {
			t.Errorf("NumberOf(%.30q) is %d", s, got)
		}
	}
}

// staysRoomy asks that a text handed in, and what lies behind it, is as it was.
func staysRoomy(t *testing.T, plain string, buffer []byte) {
	t.Helper()
	if string(buffer) != plain+"room behind it" {
		t.Errorf("%.60q is written on", plain)
	}
}

func TestNoLineSharesMemory(t *testing.T) {
	for _, plain := range []string{"noop\r\nmore to come", "x\r\ny", "x", "no", "noop\r", "\r\n", "\r\nmore", nBytes(80) + "\r\nmore", nBytes(80), nBytes(80) + "\r", nBytes(81), nBytes(90) + "\r\nmore", nBytes(500)} {
		buf, buffer := roomy(plain)
		first, rest, _ := impl.TakeLine(buf)
		second, again, _ := impl.TakeLine(buf)
		noneShared(t, fmt.Sprintf("TakeLine of %.20q", plain), []string{buf, first, rest, second, again})
		staysRoomy(t, plain, buffer)
	}
}

func TestNoWordSharesMemory(t *testing.T) {
	for _, plain := range []string{"helo", "helo ann", "  some   words stand here  ", "1 2 3 4 5 6 7 8 9 10 11", "wrong \x00", ""} {
		line, buffer := roomy(plain)
		first, second := impl.WordsOf(line), impl.WordsOf(line)
		noneShared(t, fmt.Sprintf("WordsOf %q", plain), slices.Concat([]string{line}, first, second))
		kept := slices.Clone(second)
		scribbleOver(first, "scribble")
		if !slices.Equal(second, kept) || slices.Contains(second[:cap(second)], "scribble") || !slices.Equal(impl.WordsOf(line), kept) {
			t.Errorf("two lists of WordsOf %q share memory", plain)
		}
		staysRoomy(t, plain, buffer)
	}
	for _, plain := range []string{"quit", "q", "Q", "QuIt", "@[`{", "caf\u00c9", nBytes(300)} {
		word, buffer := roomy(plain)
		noneShared(t, fmt.Sprintf("LowWord of %.20q", plain), []string{word, impl.LowWord(word), impl.LowWord(word)})
		staysRoomy(t, plain, buffer)
	}
	for _, plain := range []string{"12", "x", "1000000000"} {
		s, buffer := roomy(plain)
		impl.NumberOf(s)
		staysRoomy(t, plain, buffer)
	}
}

// Of one text lines may be taken by many at once: each is answered as if
// alone.
func TestLinesAreTakenByManyAtOnce(t *testing.T) {
	bufs := []string{"noop\r\nmore", nBytes(80) + "\r\n", nBytes(80) + "\r", nBytes(200), "", "helo ann\r\n\r\n"}
	wrong := make([]bool, 48)
	var all sync.WaitGroup
	for i := range wrong {
		all.Go(func() {
			for range 50 {
				buf := bufs[i%len(bufs)]
				line, rest, code := impl.TakeLine(buf)
				low := impl.LowWord("HeLo") == "helo" && impl.NumberOf("12") == 12 && len(impl.WordsOf("helo ann")) == 2
				wrong[i] = wrong[i] || !low || lineTaken{line, rest, code} != lineAsSaid(buf)
			}
		})
	}
	all.Wait()
	if slices.Contains(wrong, true) {
		t.Errorf("one of many is told something else: %v", wrong)
	}
}
