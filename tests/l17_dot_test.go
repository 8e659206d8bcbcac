package tests

import (
	"bytes"
	"fmt"
	"slices"
	"strings"
	"sync"
	"testing"

	"loop.example/g00287/impl"
)

// linesAsSaid and those below are the document's own words.
func linesAsSaid(text string) []string {
	if text == "" {
		return nil
	}
	return strings.Split(strings.TrimSuffix(text, "\n"), "\n")
}

func textAsSaid(lines []string) string {
	out := []byte{}
	for _, line := range lines {
		out = append(append(out, line...), 10)
	}
	return string(out)
}

func dotAsSaid(text string) string {
	out := []byte{}
	for _, line := range linesAsSaid(text) {
		if line != "" && line[0] == '.' {
			out = append(out, '.')
		}
		out = append(append(out, line...), 13, 10)
	}
	return string(append(out, '.', 13, 10))
}

func undotAsSaid(line string) (string, bool) {
	switch {
	case line == ".":
		return "", false
	case len(line) > 1 && line[0] == '.':
		return line[1:], true
	}
	return line, true
}

func safeAsSaid(text string) bool {
	if text == "" {
		return true
	}
	return bytes.Count([]byte(text), []byte{13}) == 0 && text[len(text)-1] == 10
}

// dotsAsSaid asks for every function at a text as the document says it.
func dotsAsSaid(t *testing.T, text string) {
	t.Helper()
	lines := impl.LinesOf(text)
	if want := linesAsSaid(text); !slices.Equal(lines, want) {
		t.Errorf("LinesOf(%.60q) is %.60q, not %.60q", text, lines, want)
	}
	if got, want := impl.TextOf([]string{text}), text+"\n"; got != want {
		t.Errorf("TextOf(%.60q) is %.60q, not %.60q", text, got, want)
	}
	if got, want := impl.DotText(text), dotAsSaid(text); got != want {
		t.Errorf("DotText(%.60q) is %.60q, not %.60q", text, got, want)
	}
	got, ok := impl.UndotLine(text)
	if want, fine := undotAsSaid(text); got != want || ok != fine {
		t.Errorf("UndotLine(%.60q) is %.60q, %v; not %.60q, %v", text, got, ok, want, fine)
	}
	if got := impl.SafeText(text); got != safeAsSaid(text) {
		t.Errorf("SafeText(%.60q) is %v", text, got)
	}
}

// undotted takes lines, each with its end, up to the one that ends them, and
// tells them without their dots, and what is behind.
func undotted(t *testing.T, told string) ([]string, string) {
	t.Helper()
	lines := []string{}
	for {
		line, rest, found := strings.Cut(told, "\r\n")
		if !found {
			t.Fatalf("no line ends %.60q: %.60q is left", lines, told)
		}
		plain, more := impl.UndotLine(line)
		if !more {
			return lines, rest
		}
		lines, told = append(lines, plain), rest
	}
}

// comesBack asks that a text comes back from its dots, and that nothing behind
// them is touched.
func comesBack(t *testing.T, text string) {
	t.Helper()
	for _, behind := range []string{"", "noop\r\n", ".", ".\r\n", "\n"} {
		lines, rest := undotted(t, impl.DotText(text)+behind)
		if !slices.Equal(lines, impl.LinesOf(text)) || rest != behind {
			t.Errorf("%.60q comes back as %.60q, with %.60q behind it", text, lines, rest)
		}
		want := text
		if text != "" && !strings.HasSuffix(text, "\n") {
			want += "\n"
		}
		if got := impl.TextOf(lines); got != want {
			t.Errorf("%.60q comes back as the text %.60q", text, got)
		}
	}
}

// mailTexts are texts of all kinds: with dots and without, and with bytes that
// are part of no rune.
func mailTexts() []string {
	return []string{
		"", "\n", "\n\n", "\n\n\n", "a", "a\n", "a\nb", "a\nb\n", "a\n\nb\n", "\na\n", "a\n\n", "\n\na\n\n\nb\n\n",
		".", ".\n", "..", "..\n", "...", "...\n", ".\n.\n", ".\n..\n...\n....\n", ".a\n", "..a\n", "a.\n", "a.b\n", " .\n", "a\n.\nb\n", "a\n.", "\n.\n", "\n.", ".\n\n.\n",
		"from: ann\nto: bob\n\nhello.\n.hidden\n", "end.\n.\nquit\n", "no end",
		"\r", "\r\n", "a\r\n", "a\r\nb\r\n", "\ra\n", "a\rb\n", "a\n\r", "a\n\r\n", ".\r\n", ".\r\n.\r\n", "\r.\n", ".\r", "\r\r\n", "\r\n.\r\n", "\r.\r\n.\n",
		"\x00", "\x00\n", "\t\n", "\x7f\n", "\x80\n", "\xff\n", ".\x00\n", ".\x80\n", ".\xff\n", "\x80.\n", "\xff.\n.", allBytes(), "." + allBytes() + "\n." + allBytes() + "\n",
		// runes of several bytes, whole, cut in their middle, and longer than
		// need be
		"caf\u00e9\n", "\u2028\n", "\u0085\n", ".\u00e9\n", "\u00e9.\n", "\ufffd\n", "\ufffd", "\U0001f4ec\n.\U0001f4ec\n",
		"\xc3\n", "\xc3", "\xc3\n\xa9\n", "\xc3.\n", ".\xc3\n", "\xe2\x80\n\xa8\n", "\xe2\n\x80\xa8\n", "\xe2\n.\n", "\xf0\x9f\x93\n\xac\n", "\xf0\x9f\n.\x93\xac", "\xf0\n\n", "\xed\xa0\x80\n", "\xf4\x90\x80\x80\n",
		"\xc0\x8a", "\xc0\x8d\n", "\xc0\xae\n", "\xc0\xae", "\xe0\x80\x8a", "\xe0\x80\xae\n",
		// runes whose last byte, or whose last 8 bits, are 10, 13 or a dot
		"\u010a", "\u0a0a", "\u010d\n", "\u0d0d\n", "\u012e\n", "\u2e2e\n", "\uff0e\n", "\u2024\n", "\U0001000a", "\U0001000d\n", "\U0001002e\n",
	}
}

func TestLinesOf(t *testing.T) {
	for _, c := range []struct {
		text string
		want []string
	}{
		{"", nil}, {"\n", []string{""}}, {"\n\n", []string{"", ""}}, {"\n\n\n", []string{"", "", ""}},
		{"a", []string{"a"}}, {"a\n", []string{"a"}}, {"a\nb", []string{"a", "b"}}, {"a\nb\n", []string{"a", "b"}}, {"one\ntwo\nthree\n", []string{"one", "two", "three"}},
		{"a\n\nb\n", []string{"a", "", "b"}}, {"\na\n", []string{"", "a"}}, {"\na", []string{"", "a"}}, {"a\n\n", []string{"a", ""}}, {"a\n\n\nb", []string{"a", "", "", "b"}}, {"\n\na\n\n", []string{"", "", "a", ""}},
		{".\n..\n", []string{".", ".."}}, {" \n", []string{" "}}, {"a b\n c\n", []string{"a b", " c"}},
		{"a\r\nb\r\n", []string{"a\r", "b\r"}}, {"\r\n", []string{"\r"}}, {"\r", []string{"\r"}}, {"a\n\r", []string{"a", "\r"}}, {"a\rb\n", []string{"a\rb"}},
		{"\x00\n\t\n\x7f\n\x80\n\xff\n", []string{"\x00", "\t", "\x7f", "\x80", "\xff"}}, {"a\vb\fc\n", []string{"a\vb\fc"}},
		{"caf\u00e9\n\u2028\n\u0085\n", []string{"caf\u00e9", "\u2028", "\u0085"}}, {"\xc3\n\xa9\n", []string{"\xc3", "\xa9"}}, {"\xe2\x80\n\xa8", []string{"\xe2\x80", "\xa8"}}, {"\xf0\x9f\x93\n\xac\n", []string{"\xf0\x9f\x93", "\xac"}},
		{"\xc0\x8a\n", []string{"\xc0\x8a"}}, {"\u010a\u0a0a\n", []string{"\u010a\u0a0a"}}, {"\ufffd\n\xff\n", []string{"\ufffd", "\xff"}},
	} {
		if got := impl.LinesOf(c.text); !slices.Equal(got, c.want) {
			t.Errorf("LinesOf(%q) is %q, not %q", c.text, got, c.want)
		}
	}
}

func TestTextOf(t *testing.T) {
	for _, c := range []struct {
		lines []string
		want  string
	}{
		{nil, ""}, {[]string{}, ""}, {[]string{""}, "\n"}, {[]string{"", ""}, "\n\n"}, {[]string{"a"}, "a\n"}, {[]string{"a", "b"}, "a\nb\n"}, {[]string{"one", "two", "three"}, "one\ntwo\nthree\n"},
		{[]string{"", "a"}, "\na\n"}, {[]string{"a", ""}, "a\n\n"}, {[]string{"a", "", "b"}, "a\n\nb\n"}, {[]string{".", "..", "a."}, ".\n..\na.\n"},
		// lines with ends of lines in them
		{[]string{"\n"}, "\n\n"}, {[]string{"a\n"}, "a\n\n"}, {[]string{"a\nb", "c"}, "a\nb\nc\n"}, {[]string{"a\r\n", "\r"}, "a\r\n\n\r\n"}, {[]string{"a\r", "b\r"}, "a\r\nb\r\n"}, {[]string{"\r\n"}, "\r\n\n"},
		{[]string{"\x00", "\t", "\x7f", "\x80", "\xff"}, "\x00\n\t\n\x7f\n\x80\n\xff\n"}, {[]string{"\xc3", "\xa9"}, "\xc3\n\xa9\n"}, {[]string{"\xe2\x80", "\u2028"}, "\xe2\x80\n\u2028\n"}, {[]string{allBytes()}, allBytes() + "\n"},
	} {
		if got := impl.TextOf(c.lines); got != c.want {
			t.Errorf("TextOf(%q) is %q, not %q", c.lines, got, c.want)
		}
	}
}

func TestDotText(t *testing.T) {
	for _, c := range []struct{ text, want string }{
		{"", ".\r\n"}, {"\n", "\r\n.\r\n"}, {"\n\n", "\r\n\r\n.\r\n"}, {"a", "a\r\n.\r\n"}, {"a\n", "a\r\n.\r\n"}, {"a\nb", "a\r\nb\r\n.\r\n"}, {"a\nb\n", "a\r\nb\r\n.\r\n"},
		{"\na\n\nb\n\n", "\r\na\r\n\r\nb\r\n\r\n.\r\n"}, {"a\n.b\n", "a\r\n..b\r\n.\r\n"}, {".a\nb\n", "..a\r\nb\r\n.\r\n"}, {".a\n.b", "..a\r\n..b\r\n.\r\n"},
		{".", "..\r\n.\r\n"}, {".\n", "..\r\n.\r\n"}, {"..", "...\r\n.\r\n"}, {"..\n", "...\r\n.\r\n"}, {"...\n", "....\r\n.\r\n"}, {".\n.\n", "..\r\n..\r\n.\r\n"}, {"a\n.", "a\r\n..\r\n.\r\n"}, {"\n.\n", "\r\n..\r\n.\r\n"},
		{"a.\n", "a.\r\n.\r\n"}, {"a.b.\n", "a.b.\r\n.\r\n"}, {" .\n", " .\r\n.\r\n"}, {"a.\n.b.\n", "a.\r\n..b.\r\n.\r\n"}, {".a.b\n", "..a.b\r\n.\r\n"},
		{"a\r\n", "a\r\r\n.\r\n"}, {"\r", "\r\r\n.\r\n"}, {"\r.\n", "\r.\r\n.\r\n"}, {".\r\n", "..\r\r\n.\r\n"}, {"a\r.b\n", "a\r.b\r\n.\r\n"}, {"\r\n.\r\n", "\r\r\n..\r\r\n.\r\n"},
		{"\x00\x7f\x80\xff\n.\xff", "\x00\x7f\x80\xff\r\n..\xff\r\n.\r\n"}, {".caf\u00e9\n", "..caf\u00e9\r\n.\r\n"}, {"\xc3\n.\xa9\n", "\xc3\r\n..\xa9\r\n.\r\n"}, {"\u012e\n\uff0e\n\xc0\xae\n", "\u012e\r\n\uff0e\r\n\xc0\xae\r\n.\r\n"},
	} {
		if got := impl.DotText(c.text); got != c.want {
			t.Errorf("DotText(%q) is %q, not %q", c.text, got, c.want)
		}
	}
}

func TestUndotLine(t *testing.T) {
	for _, c := range []struct {
		line, want string
		ok         bool
	}{
		{".", "", false}, {"", "", true}, {"..", ".", true}, {"...", "..", true}, {"....", "...", true}, {".a", "a", true}, {"..a", ".a", true}, {"..x", ".x", true}, {".a.b.", "a.b.", true}, {". ", " ", true},
		{"a", "a", true}, {"hello there", "hello there", true}, {"a.", "a.", true}, {"a.b", "a.b", true}, {" .", " .", true}, {" ", " ", true}, {" .a", " .a", true}, {",", ",", true}, {"/", "/", true},
		{"\n", "\n", true}, {"\r", "\r", true}, {"\r\n", "\r\n", true}, {".\n", "\n", true}, {".\r", "\r", true}, {".\r\n", "\r\n", true}, {"\n.", "\n.", true}, {"\r.", "\r.", true}, {"..\r\n", ".\r\n", true}, {"a\n.b", "a\n.b", true}, {".a\r\n.b", "a\r\n.b", true},
		{"\x00", "\x00", true}, {".\x00", "\x00", true}, {"\x00.", "\x00.", true}, {".\x80", "\x80", true}, {"\x80.", "\x80.", true}, {".\xff", "\xff", true}, {"\xff", "\xff", true}, {".\xa9", "\xa9", true}, {".\xe2\x80", "\xe2\x80", true}, {".\u2028", "\u2028", true}, {"caf\u00e9", "caf\u00e9", true},
		{"\u012e", "\u012e", true}, {"\uff0e", "\uff0e", true}, {"\uff0ea", "\uff0ea", true}, {"\u2024", "\u2024", true}, {"\u2026", "\u2026", true}, {"\xc0\xae", "\xc0\xae", true}, {"\xc0\xaea", "\xc0\xaea", true}, {"\xae", "\xae", true}, {"\U0001002ea", "\U0001002ea", true},
	} {
		if got, ok := impl.UndotLine(c.line); got != c.want || ok != c.ok {
			t.Errorf("UndotLine(%q) is %q, %v; not %q, %v", c.line, got, ok, c.want, c.ok)
		}
	}
}

func TestSafeText(t *testing.T) {
	for _, text := range []string{
		"", "\n", "\n\n", "a\n", "a\nb\n", "a\n\n", "\na\n", ".\n", "..\n.\n", " \n", "no blank behind\n",
		"\x00\n", "\t\n", "\v\f\n", "\x0c\n", "\x0e\n", "\x7f\n", "\x80\n", "\xff\n", "\xc3\n", "\xe2\x80\n", "caf\u00e9\n", "\u2028\n", "\xf0\x9f\x93\n", "\u010d\n", "\u0d0d\n", "\u0d0a\n", "\U0001000d\n", "\xc0\x8d\n", "\x8d\n", "\ufffd\n", nBytes(30000) + "\n", strings.Repeat("\n", 30000),
	} {
		if !impl.SafeText(text) {
			t.Errorf("%.60q is not safe", text)
		}
	}
	for _, text := range []string{
		"a", "a\nb", "\na", " ", "\n ", ".", "\n.", "a\n\x00", "\x00", "\t", "\x0b", "a\x0b", "a\n\xff", "\x8a", "\xc0\x8a", "a\xc3", "\u010a", "\u0a0a", "\U0001000a", "\u2028", "\u0085", "caf\u00e9", nBytes(30000), strings.Repeat("\n", 30000) + "a",
		"\r", "\r\n", "\ra\n", "a\rb\n", "a\r\n", "a\n\r", "\n\r", "\n\r\n", "\r\r\n", "a\r", "a\nb\r\n", "a\r\nb\n", "\x00\r\n", "\xff\r\xff\n", "\xc3\r\n", "\xe2\x80\r\n", nBytes(30000) + "\r\n", "\r" + nBytes(30000) + "\n",
	} {
		if impl.SafeText(text) {
			t.Errorf("%.60q is safe", text)
		}
	}
}

// Every short text of the bytes that matter, of another one, and of the two
// halves of a rune.
func TestDotsOfEveryShortText(t *testing.T) {
	texts := []string{""}
	for len(texts[0]) < 6 {
		next := []string{}
		for _, text := range texts {
			dotsAsSaid(t, text)
			comesBack(t, text)
			for _, c := range []string{".", "\n", "\r", "a", "\xc3", "\xa9"} {
				next = append(next, text+c)
			}
		}
		texts = next
	}
}

func TestDotsOfEveryByte(t *testing.T) {
	for _, c := range []byte(allBytes()) {
		one := string([]byte{c})
		for _, text := range []string{one, one + "\n", "a" + one + "b\n", "." + one, "." + one + "\n", one + ".", one + ".\n", "a\n" + one, "\n" + one + "\n.\n", "\xc3" + one + "\n", "\xf0\x9f" + one + "\n", one + one + one + "\n"} {
			dotsAsSaid(t, text)
			comesBack(t, text)
		}
	}
}

func TestDotsOfEveryTwoBytes(t *testing.T) {
	for _, first := range []byte(allBytes()) {
		for _, second := range []byte(allBytes()) {
			dotsAsSaid(t, string([]byte{first, second}))
		}
	}
}

func TestDotsOfManyTexts(t *testing.T) {
	texts := mailTexts()
	for _, text := range texts {
		for _, other := range texts {
			dotsAsSaid(t, text+other)
		}
		comesBack(t, text)
	}
	for n := range len(allBytes()) {
		dotsAsSaid(t, allBytes()[n:])
		comesBack(t, allBytes()[:n])
	}
}

// Every place to cut a text of runes of one byte to four: what a cut leaves of
// a rune is told byte by byte.
func TestDotsOfRunesCutAnywhere(t *testing.T) {
	text := ".\u00e9\n\u2028.\n.\U0001f4ec\n\n\ufffd\u010a\n"
	for from := range len(text) + 1 {
		for to := from; to <= len(text); to++ {
			dotsAsSaid(t, text[from:to])
			dotsAsSaid(t, text[:from]+"\n"+text[to:])
			dotsAsSaid(t, text[:from]+"\n."+text[to:]+"\n")
			comesBack(t, text[from:to])
		}
	}
}

// drawnText draws a text of the bytes that matter and of others.
func (d *drawing) drawnText(longest int) string {
	out := []byte{}
	for range d.below(longest + 1) {
		out = append(out, byte(d.of('.', '.', 10, 10, 'a', ' ', 13, 0, 9, 127, 128, 0xc3, 0xa9, 0xe2, 0xf0, 255, d.below(256))))
	}
	return string(out)
}

// Promise 17: texts come back from their dots.
func TestTextsComeBackFromTheirDots(t *testing.T) {
	for _, text := range mailTexts() {
		comesBack(t, text)
	}
	d := drawing(17)
	for range 4000 {
		text := d.drawnText(d.of(3, 10, 80, 400))
		dotsAsSaid(t, text)
		comesBack(t, text)
	}
}

// Likewise where the lines are taken as a session takes them, with more behind
// them, however they come.
func TestTextsComeBackLineByLine(t *testing.T) {
	d := drawing(170)
	for range 300 {
		lines, text := []string{}, ""
		for range d.below(10) {
			line := []string{"", ".", "..", "...", ".a", "a", "a.", "hello there", nBytes(78), nBytes(79), "." + nBytes(78), "\xc3", "\x00\xff.", "a\rb"}[d.below(14)]
			lines, text = append(lines, line), text+line+"\n"
		}
		taken, rest := takesInPieces(t, cutsOf(&d, impl.DotText(text)+"quit\r\nno", d.of(1, 5, 90, 300)))
		plain := []string{}
		for _, line := range taken {
			line, more := impl.UndotLine(line)
			if !more {
				break
			}
			plain = append(plain, line)
		}
		behind := taken[min(len(plain)+1, len(taken)):]
		if !slices.Equal(plain, lines) || !slices.Equal(behind, []string{"quit"}) || rest != "no" || impl.TextOf(plain) != text {
			t.Fatalf("%q comes back as %q, with %q and %q behind it", lines, plain, behind, rest)
		}
	}
}

// What TextOf writes is read by LinesOf, unless a line has an end in it.
func TestLinesComeBackFromTheirText(t *testing.T) {
	d := drawing(171)
	for range 2000 {
		lines := []string{}
		for range d.below(8) {
			lines = append(lines, strings.ReplaceAll(d.drawnText(d.of(0, 1, 5, 100)), "\n", ""))
		}
		text := impl.TextOf(lines)
		if text != textAsSaid(lines) || !slices.Equal(impl.LinesOf(text), lines) {
			t.Fatalf("%q comes back as %q from the text %q", lines, impl.LinesOf(text), text)
		}
		if want := !strings.Contains(text, "\r"); impl.SafeText(text) != want {
			t.Fatalf("SafeText(%q) is not %v", text, want)
		}
	}
}

func TestDotsOfLongTexts(t *testing.T) {
	for _, part := range []string{"\n", ".", ".\n", "a", "a\n", "\r", "\r\n", ".\r\n", "\xc3", "\xc3\n", ".\xff\n", "\u2028", "\u2028\n.", "hello there\n.hidden\n\n"} {
		for _, n := range []int{20000, 20001, 100000} {
			text := strings.Repeat(part, n)
			dotsAsSaid(t, text)
			dotsAsSaid(t, "a"+text)
			comesBack(t, text)
		}
	}
	lines := slices.Repeat([]string{"", ".", "a", "\xff", nBytes(100)}, 20000)
	if impl.TextOf(lines) != textAsSaid(lines) {
		t.Error("TextOf of many lines is not each line and a byte 10")
	}
}

func TestNoDotSharesMemory(t *testing.T) {
	for _, plain := range append(mailTexts(), "hello\n.there\nfriend", nBytes(300), "."+nBytes(300)+"\n"+nBytes(300)+"\n") {
		text, buffer := roomy(plain)
		first, second := impl.LinesOf(text), impl.LinesOf(text)
		noneShared(t, fmt.Sprintf("LinesOf %.30q", plain), slices.Concat([]string{text}, first, second))
		kept := slices.Clone(second)
		scribbleOver(first, "scribble")
		if !slices.Equal(second, kept) || slices.Contains(second[:cap(second)], "scribble") || !slices.Equal(impl.LinesOf(text), kept) {
			t.Errorf("two lists of LinesOf %.30q share memory", plain)
		}
		noneShared(t, fmt.Sprintf("DotText of %.30q", plain), []string{text, impl.DotText(text), impl.DotText(text)})
		line, _ := impl.UndotLine(text)
		again, _ := impl.UndotLine(text)
		noneShared(t, fmt.Sprintf("UndotLine of %.30q", plain), []string{text, line, again})
		one := []string{text}
		noneShared(t, fmt.Sprintf("TextOf %.30q", plain), []string{text, impl.TextOf(one), impl.TextOf(one)})
		impl.SafeText(text)
		staysRoomy(t, plain, buffer)
	}
}

func TestTextOfWritesOnNoLine(t *testing.T) {
	for _, plain := range [][]string{{}, {""}, {"a"}, {"a", "", ".b"}, {"\n", "\r\n", "\xff"}, {nBytes(300), "."}} {
		lines, buffers := make([]string, 0, len(plain)+3), [][]byte{}
		for _, line := range plain {
			given, buffer := roomy(line)
			lines, buffers = append(lines, given), append(buffers, buffer)
		}
		behind := append(lines, "behind", "the", "end")
		first, second := impl.TextOf(lines), impl.TextOf(lines)
		noneShared(t, fmt.Sprintf("TextOf %.60q", plain), slices.Concat(lines, []string{first, second}))
		if !slices.Equal(behind, slices.Concat(plain, []string{"behind", "the", "end"})) {
			t.Errorf("TextOf writes on %.60q: %.60q", plain, behind)
		}
		for i, buffer := range buffers {
			staysRoomy(t, plain[i], buffer)
		}
		scribbleOver(lines, "scribble")
		if first != textAsSaid(plain) || second != first {
			t.Errorf("TextOf(%.60q) turns with its list", plain)
		}
	}
}

// Of one text many may ask at once: each is answered as if alone.
func TestDotsAreAskedForByManyAtOnce(t *testing.T) {
	texts := mailTexts()
	wrong := make([]bool, 48)
	var all sync.WaitGroup
	for i := range wrong {
		all.Go(func() {
			for n := range 100 {
				text := texts[(i+n)%len(texts)]
				lines := impl.LinesOf(text)
				plain, ok := impl.UndotLine(text)
				want, fine := undotAsSaid(text)
				alike := slices.Equal(lines, linesAsSaid(text)) && impl.DotText(text) == dotAsSaid(text) && impl.TextOf(lines) == textAsSaid(lines) && impl.SafeText(text) == safeAsSaid(text)
				wrong[i] = wrong[i] || !alike || plain != want || ok != fine
			}
		})
	}
	all.Wait()
	if slices.Contains(wrong, true) {
		t.Errorf("one of many is told something else: %v", wrong)
	}
}
