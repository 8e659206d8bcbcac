package tests

import (
	"math"
	"regexp"
	"slices"
	"strings"
	"testing"

	"loop.example/g00287/impl"
)

// recAsSaid is the document's own words, also of a record that is not right
// (as long as no number in it is below 0, and Kind is one byte).
func recAsSaid(r impl.Rec) string {
	out := string([]byte{byte(r.Kind)})
	for _, n := range []int{r.Valid, r.Uid, r.Next, r.Flags} {
		out += varAsSaid(n)
	}
	for _, s := range []string{r.User, r.Name, r.Text} {
		out += varAsSaid(len(s)) + s
	}
	return out
}

// hasText tells whether recAsSaid can write it so that its Kind and its
// numbers are what they were.
func hasText(r impl.Rec) bool {
	return 0 <= r.Kind && r.Kind < 256 && min(r.Valid, r.Uid, r.Next, r.Flags) >= 0
}

var wordAsSaid = regexp.MustCompile(`^[a-z]{1,8}$`)

// recRightAsSaid is the document's own words.
func recRightAsSaid(r impl.Rec) bool {
	in := func(n, from, to int) bool { return from <= n && n <= to }
	if !in(r.Kind, 1, 5) || !in(r.Valid, 1, 9999) {
		return false
	}
	rest := r
	rest.Kind, rest.Valid = 0, 0
	right := true
	if r.Kind == 1 {
		right = wordAsSaid.MatchString(r.User) && wordAsSaid.MatchString(r.Name) && in(r.Next, 1, 9999+1)
		rest.User, rest.Name, rest.Next = "", "", 0
	}
	if r.Kind == 3 || r.Kind == 4 || r.Kind == 5 {
		right = right && in(r.Uid, 1, 9999)
		rest.Uid = 0
	}
	if r.Kind == 3 || r.Kind == 4 {
		right = right && in(r.Flags, 0, 7)
		rest.Flags = 0
	}
	if r.Kind == 3 {
		right = right && len(r.Text) <= 100
		rest.Text = ""
	}
	return right && rest == impl.Rec{}
}

// readRecAsSaid reads as loosely as it can, and then asks for the document's
// own words.
func readRecAsSaid(t string) (impl.Rec, bool) {
	rest := t
	number := func() int {
		n, shift := 0, 0
		for rest != "" {
			c := rest[0]
			rest = rest[1:]
			n |= int(c&127) << shift
			shift += 7
			if c < 128 {
				return n
			}
		}
		return -1
	}
	text := func() string {
		n := number()
		if n < 0 || n > len(rest) {
			return "?"
		}
		s := rest[:n]
		rest = rest[n:]
		return s
	}
	if t == "" {
		return impl.Rec{}, false
	}
	rest = rest[1:]
	r := impl.Rec{Kind: int(t[0]), Valid: number(), Uid: number(), Next: number(), Flags: number(), User: text(), Name: text(), Text: text()}
	if !recRightAsSaid(r) || recAsSaid(r) != t {
		return impl.Rec{}, false
	}
	return r, true
}

var (
	rightValids = []int{1, 2, 63, 64, 126, 127, 128, 129, 255, 256, 5000, impl.MaxValid - 1, impl.MaxValid}
	wrongValids = []int{0, -1, -127, -impl.MaxValid, impl.MaxValid + 1, impl.MaxValid + 2, 16383, 16384, 1<<16 + 1, 1<<32 + 1, impl.MaxNumber, impl.MaxNumber + 1, math.MaxInt - 1, math.MaxInt, math.MinInt, math.MinInt + 1}
	wrongNexts  = []int{0, -1, -127, -impl.MaxValid, impl.MaxValid + 2, impl.MaxValid + 3, 16383, 16384, 1<<16 + 1, 1<<32 + 1, impl.MaxNumber, impl.MaxNumber + 1, math.MaxInt - 1, math.MaxInt, math.MinInt, math.MinInt + 1}
	wrongFlags  = []int{8, 9, 15, 16, 127, 128, 255, 256, 1 << 32, 1<<32 + 7, -1, -7, -8, impl.MaxNumber, impl.MaxNumber + 1, math.MaxInt, math.MinInt, math.MinInt + 7}
	wrongKinds  = []int{0, 6, 7, 127, 128, 255, 256, -1, -5, -6, 256 + 1, 256 + 2, 256 + 3, 256 + 4, 256 + 5, 512 + 3, 1<<16 + 1, 1<<32 + 3, 1<<56 + 5, 1 - 256, 3 - 256, 5 - 256, impl.MaxNumber, math.MaxInt, math.MaxInt - 252, math.MinInt, math.MinInt + 1, math.MinInt + 3, math.MinInt + 5}
	notZero     = []int{1, 7, 128, impl.MaxValid, impl.MaxNumber, impl.MaxNumber + 1, 256, 1 << 32, -1, math.MaxInt, math.MinInt}
	rightWords  = []string{"a", "z", "m", "az", "ann", "inbox", "abcdefg", "abcdefgh", "zzzzzzzz"}
	wrongWords  = []string{"", "abcdefghi", strings.Repeat("z", 16), "A", "Z", "Ann", "anN", "a1", "1", "9a", "a`", "`", "{", "z{", "a b", " ", "a ", " a", "a\x00", "\x00", "a\n", "a-b", "\xe1", "a\xff", "é", "abcdefg\x00", "abcdefgh\x00", "ann\xe1"}
	rightTexts  = []string{"", "h", "hi", "\x00", "\xff", "from: ann\n\n.\r\n", bodyOf(impl.MaxText9 - 1), bodyOf(impl.MaxText9), strings.Repeat("\x00", impl.MaxText9), strings.Repeat("\xff", impl.MaxText9), allBytes()[:100], allBytes()[156:]}
	wrongTexts  = []string{bodyOf(impl.MaxText9 + 1), strings.Repeat("a", impl.MaxText9+1), bodyOf(127), bodyOf(128), allBytes(), bodyOf(256 + 100), bodyOf(impl.MaxText), bodyOf(impl.MaxText + 1)}
)

// leastRecs and greatestRecs have one of each Kind, with what it uses at its
// least and at its greatest.
func leastRecs() []impl.Rec {
	return []impl.Rec{
		{Kind: impl.RecBox, Valid: 1, Next: 1, User: "a", Name: "a"},
		{Kind: impl.RecDrop, Valid: 1},
		{Kind: impl.RecAdd, Valid: 1, Uid: 1},
		{Kind: impl.RecFlag, Valid: 1, Uid: 1},
		{Kind: impl.RecGone, Valid: 1, Uid: 1},
	}
}

func greatestRecs() []impl.Rec {
	return []impl.Rec{
		{Kind: impl.RecBox, Valid: impl.MaxValid, Next: impl.MaxValid + 1, User: "zzzzzzzz", Name: "zzzzzzzz"},
		{Kind: impl.RecDrop, Valid: impl.MaxValid},
		{Kind: impl.RecAdd, Valid: impl.MaxValid, Uid: impl.MaxValid, Flags: 7, Text: strings.Repeat("\xff", impl.MaxText9)},
		{Kind: impl.RecFlag, Valid: impl.MaxValid, Uid: impl.MaxValid, Flags: 7},
		{Kind: impl.RecGone, Valid: impl.MaxValid, Uid: impl.MaxValid},
	}
}

// plainRecs has one of each Kind with nothing at an edge.
func plainRecs() []impl.Rec {
	return []impl.Rec{
		{Kind: impl.RecBox, Valid: 130, Next: 4, User: "ann", Name: "inbox"},
		{Kind: impl.RecDrop, Valid: 12},
		{Kind: impl.RecAdd, Valid: 3, Uid: 200, Flags: 5, Text: "hello\n"},
		{Kind: impl.RecFlag, Valid: 300, Uid: 9, Flags: 2},
		{Kind: impl.RecGone, Valid: 44, Uid: 128},
	}
}

// someRecs is a few of each Kind, edges and others.
func someRecs() []impl.Rec {
	return slices.Concat(leastRecs(), plainRecs(), greatestRecs())
}

func rightRecs() []impl.Rec {
	list := someRecs()
	for _, v := range rightValids {
		for _, n := range rightValids {
			list = append(list,
				impl.Rec{Kind: impl.RecBox, Valid: v, Next: n, User: "ann", Name: "inbox"},
				impl.Rec{Kind: impl.RecDrop, Valid: v},
				impl.Rec{Kind: impl.RecAdd, Valid: v, Uid: n, Text: "hi"},
				impl.Rec{Kind: impl.RecFlag, Valid: v, Uid: n},
				impl.Rec{Kind: impl.RecGone, Valid: v, Uid: n})
		}
		list = append(list, impl.Rec{Kind: impl.RecBox, Valid: v, Next: impl.MaxValid + 1, User: "ann", Name: "inbox"})
	}
	for flags := range 8 {
		list = append(list,
			impl.Rec{Kind: impl.RecAdd, Valid: 5, Uid: 6, Flags: flags, Text: "hi"},
			impl.Rec{Kind: impl.RecFlag, Valid: 5, Uid: 6, Flags: flags})
	}
	for _, user := range rightWords {
		for _, name := range rightWords {
			list = append(list, impl.Rec{Kind: impl.RecBox, Valid: 1, Next: 2, User: user, Name: name})
		}
	}
	for _, text := range rightTexts {
		list = append(list,
			impl.Rec{Kind: impl.RecAdd, Valid: 1, Uid: 1, Text: text},
			impl.Rec{Kind: impl.RecAdd, Valid: impl.MaxValid, Uid: impl.MaxValid, Flags: 7, Text: text})
	}
	return list
}

// turnedFields has r with each field turned to each of these, where the Kind
// uses it to what is wrong there, and else to what is not zero.
func turnedFields(r impl.Rec) []impl.Rec {
	list := []impl.Rec{}
	number := func(field func(*impl.Rec) *int, values []int) {
		for _, n := range values {
			x := r
			*field(&x) = n
			list = append(list, x)
		}
	}
	text := func(field func(*impl.Rec) *string, values []string) {
		for _, s := range values {
			x := r
			*field(&x) = s
			list = append(list, x)
		}
	}
	uids, nexts, flags, words, texts := notZero, notZero, notZero, []string{"a", "ann", "A", "\x00", "abcdefghi"}, []string{"a", "hi", "\x00", bodyOf(100), bodyOf(101)}
	switch r.Kind {
	case impl.RecBox:
		nexts, words = wrongNexts, wrongWords
	case impl.RecAdd:
		uids, flags, texts = wrongValids, wrongFlags, wrongTexts
	case impl.RecFlag:
		uids, flags = wrongValids, wrongFlags
	case impl.RecGone:
		uids = wrongValids
	}
	number(func(x *impl.Rec) *int { return &x.Kind }, wrongKinds)
	number(func(x *impl.Rec) *int { return &x.Valid }, wrongValids)
	number(func(x *impl.Rec) *int { return &x.Uid }, uids)
	number(func(x *impl.Rec) *int { return &x.Next }, nexts)
	number(func(x *impl.Rec) *int { return &x.Flags }, flags)
	text(func(x *impl.Rec) *string { return &x.User }, words)
	text(func(x *impl.Rec) *string { return &x.Name }, words)
	text(func(x *impl.Rec) *string { return &x.Text }, texts)
	return list
}

func wrongRecs() []impl.Rec {
	list := []impl.Rec{{}, {Valid: 1}, {Kind: math.MinInt, Valid: math.MinInt, Uid: math.MinInt, Next: math.MinInt, Flags: math.MinInt}, {Kind: math.MaxInt, Valid: math.MaxInt, Uid: math.MaxInt, Next: math.MaxInt, Flags: math.MaxInt}}
	for kind := 1; kind <= 5; kind++ {
		list = append(list,
			impl.Rec{Kind: kind},
			impl.Rec{Kind: kind, Valid: 1, Uid: 1, Next: 1, Flags: 1, User: "ann", Name: "inbox", Text: "hi"},
			impl.Rec{Kind: kind, Valid: 1, Uid: math.MaxInt, Next: math.MaxInt, Flags: math.MaxInt})
	}
	for _, r := range someRecs() {
		list = append(list, turnedFields(r)...)
	}
	return list
}

func refusesRecText(t *testing.T, what, text string) {
	t.Helper()
	if r, ok := impl.ReadRec(text); ok || r != (impl.Rec{}) {
		t.Errorf("%s: of %q ReadRec reads %#v, %v", what, text, r, ok)
	}
	f := impl.Frame{Gen: 1, Seq: 1, Body: text}
	if x, ok := impl.FrameItem(f); ok || x != (impl.Item{}) {
		t.Errorf("%s: of a frame with %q FrameItem reads %#v, %v", what, text, x, ok)
	}
}

// readsAsSaid asks for what the document's own words read, there or not.
func readsAsSaid(t *testing.T, what, text string) {
	t.Helper()
	want, there := readRecAsSaid(text)
	if r, ok := impl.ReadRec(text); ok != there || r != want {
		t.Errorf("%s: of %q ReadRec reads %#v, %v, not %#v, %v", what, text, r, ok, want, there)
	}
}

func TestRecordLimits(t *testing.T) {
	if impl.RecBox != 1 || impl.RecDrop != 2 || impl.RecAdd != 3 || impl.RecFlag != 4 || impl.RecGone != 5 {
		t.Error("a Kind is not what the document says")
	}
	if impl.MaxValid != 9999 || impl.MaxText9 != 100 || impl.FlagSeen != 1 || impl.FlagFlagged != 2 || impl.FlagDeleted != 4 {
		t.Error("a limit or a flag is not what the document says")
	}
}

func TestWordOk(t *testing.T) {
	for _, s := range rightWords {
		if !impl.WordOk(s) {
			t.Errorf("%q is no word", s)
		}
	}
	for _, s := range wrongWords {
		if impl.WordOk(s) {
			t.Errorf("%q is a word", s)
		}
	}
	for n := range 300 {
		if got := impl.WordOk(strings.Repeat("k", n)); got != (1 <= n && n <= 8) {
			t.Errorf("of %d letters WordOk is %v", n, got)
		}
	}
}

func TestWordOkOfEveryByte(t *testing.T) {
	for c := range 256 {
		letter := strings.IndexByte("abcdefghijklmnopqrstuvwxyz", byte(c)) >= 0
		one := string([]byte{byte(c)})
		for _, s := range []string{one, "ab" + one, one + "ab", "a" + one + "b", "abcdefg" + one} {
			if got := impl.WordOk(s); got != letter {
				t.Errorf("WordOk of %q is %v", s, got)
			}
		}
		if impl.WordOk("abcdefgh" + one) {
			t.Errorf("nine bytes with %q are a word", one)
		}
	}
}

func TestRecOk(t *testing.T) {
	for _, r := range rightRecs() {
		if !impl.RecOk(r) || !recRightAsSaid(r) {
			t.Errorf("not right: %#v", r)
		}
	}
	for _, r := range wrongRecs() {
		if impl.RecOk(r) || recRightAsSaid(r) {
			t.Errorf("right: %#v", r)
		}
	}
}

// A box whose last mail has the Uid MaxValid has the Next behind it.
func TestRecOkOfTheGreatestNext(t *testing.T) {
	for next, right := range map[int]bool{0: false, 1: true, 9998: true, 9999: true, 10000: true, 10001: false} {
		r := impl.Rec{Kind: impl.RecBox, Valid: 1, Next: next, User: "ann", Name: "inbox"}
		if got := impl.RecOk(r); got != right {
			t.Errorf("with Next %d RecOk is %v", next, got)
		}
	}
}

// Each Kind with each field at zero or not: what it uses tells whether it is
// right.
func TestRecOkOfEveryChoiceOfFields(t *testing.T) {
	for kind := -1; kind < 8; kind++ {
		for choice := range 1 << 7 {
			has := func(i int) int { return choice >> i & 1 }
			r := impl.Rec{Kind: kind, Valid: has(0), Uid: has(1), Next: has(2), Flags: has(3),
				User: strings.Repeat("a", has(4)), Name: strings.Repeat("b", has(5)), Text: strings.Repeat("c", has(6))}
			if got := impl.RecOk(r); got != recRightAsSaid(r) {
				t.Errorf("RecOk of %#v is %v", r, got)
			}
		}
	}
}

func TestRecTextOfKnownRecords(t *testing.T) {
	for _, c := range []struct {
		r    impl.Rec
		want string
	}{
		{impl.Rec{Kind: impl.RecBox, Valid: 1, Next: 1, User: "ann", Name: "inbox"}, "\x01\x01\x00\x01\x00\x03ann\x05inbox\x00"},
		{impl.Rec{Kind: impl.RecBox, Valid: 9999, Next: 10000, User: "abcdefgh", Name: "z"}, "\x01\x8f\x4e\x00\x90\x4e\x00\x08abcdefgh\x01z\x00"},
		{impl.Rec{Kind: impl.RecDrop, Valid: 127}, "\x02\x7f\x00\x00\x00\x00\x00\x00"},
		{impl.Rec{Kind: impl.RecDrop, Valid: 128}, "\x02\x80\x01\x00\x00\x00\x00\x00\x00"},
		{impl.Rec{Kind: impl.RecAdd, Valid: 1, Uid: 2, Flags: 4, Text: "hi"}, "\x03\x01\x02\x00\x04\x00\x00\x02hi"},
		{impl.Rec{Kind: impl.RecAdd, Valid: 300, Uid: 9999}, "\x03\xac\x02\x8f\x4e\x00\x00\x00\x00\x00"},
		{impl.Rec{Kind: impl.RecAdd, Valid: 1, Uid: 1, Flags: 7, Text: bodyOf(100)}, "\x03\x01\x01\x00\x07\x00\x00\x64" + bodyOf(100)},
		{impl.Rec{Kind: impl.RecFlag, Valid: 3, Uid: 5, Flags: 7}, "\x04\x03\x05\x00\x07\x00\x00\x00"},
		{impl.Rec{Kind: impl.RecGone, Valid: 9999, Uid: 128}, "\x05\x8f\x4e\x80\x01\x00\x00\x00\x00\x00"},
	} {
		if got, ok := impl.RecText(c.r); !ok || got != c.want {
			t.Errorf("RecText of %#v is %q, %v, not %q", c.r, got, ok, c.want)
		}
		if got, ok := impl.ReadRec(c.want); !ok || got != c.r {
			t.Errorf("ReadRec of %q is %#v, %v", c.want, got, ok)
		}
	}
}

func TestRecTextIsWhatTheDocumentSays(t *testing.T) {
	for _, r := range rightRecs() {
		if got, ok := impl.RecText(r); !ok || got != recAsSaid(r) {
			t.Errorf("RecText of %#v is %q, %v", r, got, ok)
		}
	}
}

func TestWhatIsNoRecordHasNoText(t *testing.T) {
	for _, r := range wrongRecs() {
		if got, ok := impl.RecText(r); ok || got != "" {
			t.Errorf("RecText of %#v is %q, %v", r, got, ok)
		}
	}
}

func TestReadRecReadsBack(t *testing.T) {
	for _, r := range rightRecs() {
		text, _ := impl.RecText(r)
		if got, ok := impl.ReadRec(text); !ok || got != r {
			t.Errorf("ReadRec of the text of %#v is %#v, %v", r, got, ok)
		}
	}
}

// Such a text is written as a right one is; it is refused for what it tells.
func TestReadRecRefusesWhatIsNotRight(t *testing.T) {
	for _, r := range wrongRecs() {
		if hasText(r) {
			refusesRecText(t, "not right", recAsSaid(r))
		}
	}
}

func TestReadRecOfWhatIsCut(t *testing.T) {
	for _, r := range someRecs() {
		text := recAsSaid(r)
		for n := range len(text) {
			refusesRecText(t, "cut", text[:n])
			refusesRecText(t, "cut at the beginning", text[n+1:])
		}
	}
}

func TestReadRecOfOneByteMore(t *testing.T) {
	for _, r := range someRecs() {
		text := recAsSaid(r)
		for c := range 256 {
			one := string([]byte{byte(c)})
			refusesRecText(t, "one byte more", text+one)
			for i := range len(text) {
				readsAsSaid(t, "one byte more inside", text[:i]+one+text[i:])
			}
		}
		refusesRecText(t, "the same one again", text+text)
		refusesRecText(t, "much more", text+bodyOf(2*impl.MaxText))
	}
}

func TestReadRecOfOneByteTurned(t *testing.T) {
	for _, r := range someRecs() {
		text := recAsSaid(r)
		for i := range len(text) {
			for turn := 1; turn < 256; turn++ {
				turned := text[:i] + string([]byte{text[i] ^ byte(turn)}) + text[i+1:]
				readsAsSaid(t, "one byte turned", turned)
				if got, _ := impl.ReadRec(turned); got == r {
					t.Errorf("of %q, one byte turned, ReadRec reads the same as before", turned)
				}
			}
		}
	}
}

// longer is the same number in one byte more.
func longer(n int) string {
	b := []byte(varAsSaid(n))
	b[len(b)-1] |= 128
	return string(b) + "\x00"
}

// numbersIn has the places of the seven numbers in the text of a record, and
// what they are.
func numbersIn(r impl.Rec) ([]int, []int) {
	numbers := []int{r.Valid, r.Uid, r.Next, r.Flags, len(r.User), len(r.Name), len(r.Text)}
	behind := []int{0, 0, 0, 0, len(r.User), len(r.Name), len(r.Text)}
	places, at := []int{}, 1
	for i, n := range numbers {
		places = append(places, at)
		at += len(varAsSaid(n)) + behind[i]
	}
	return places, numbers
}

func TestReadRecRefusesLongerFormsOfNumbers(t *testing.T) {
	for _, r := range someRecs() {
		text := recAsSaid(r)
		places, numbers := numbersIn(r)
		for i, at := range places {
			n := numbers[i]
			rest := text[at+len(varAsSaid(n)):]
			refusesRecText(t, "a longer form", text[:at]+longer(n)+rest)
			short := longer(n)
			far := short[:len(short)-1] + "\x80\x80\x80\x80\x80\x80\x80\x00"
			refusesRecText(t, "a far longer form", text[:at]+far+rest)
			refusesRecText(t, "a form without end", text[:at]+strings.Repeat("\x80", 100))
			refusesRecText(t, "a form that wraps round", text[:at]+varAsSaid(n|1<<32)+rest)
			refusesRecText(t, "the greatest number", text[:at]+varAsSaid(math.MaxInt)+rest)
			refusesRecText(t, "MaxNumber", text[:at]+varAsSaid(impl.MaxNumber)+rest)
		}
	}
}

func TestReadRecOfOtherTexts(t *testing.T) {
	for _, text := range []string{
		"", "\x00", "\x01", "seg", "\x01\x01", strings.Repeat("\x00", 8), strings.Repeat("\x01", 8), strings.Repeat("\x80", 8),
		strings.Repeat("\xff", 110), "1\x01\x02\x00\x04\x00\x00\x02hi", " \x03\x01\x02\x00\x04\x00\x00\x02hi", allBytes(),
	} {
		refusesRecText(t, "another text", text)
	}
	for kind := range 256 {
		for valid := range 4 {
			readsAsSaid(t, "noughts behind a Kind and a Valid", string([]byte{byte(kind), byte(valid), 0, 0, 0, 0, 0, 0}))
			readsAsSaid(t, "an Uid", string([]byte{byte(kind), byte(valid), 1, 0, 0, 0, 0, 0}))
			readsAsSaid(t, "a Next", string([]byte{byte(kind), byte(valid), 0, 1, 0, 1, 'a', 1, 'b', 0}))
		}
	}
}

// framesRight asks for an item's frame, and for the item out of it, and out
// of the frame that is read from its text.
func framesRight(t *testing.T, x impl.Item, gen int) {
	t.Helper()
	f, ok := impl.ItemFrame(x, gen)
	if want := (impl.Frame{Gen: gen, Seq: x.Seq, Body: recAsSaid(x.Rec)}); !ok || f != want || !impl.FrameOk(f) {
		t.Errorf("with Gen %d the frame of %#v is %#v, %v", gen, x, f, ok)
		return
	}
	if got, ok := impl.FrameItem(f); !ok || got != x {
		t.Errorf("of the frame %#v the item is %#v, %v", f, got, ok)
	}
	text, _ := impl.FrameText(f)
	read, _, _ := impl.ReadFrame(text, 0)
	if got, ok := impl.FrameItem(read); !ok || got != x {
		t.Errorf("of the text of the frame %#v the item is %#v, %v", f, got, ok)
	}
}

func TestItemsComeBackFromTheirFrames(t *testing.T) {
	for _, r := range rightRecs() {
		framesRight(t, impl.Item{Seq: 7, Rec: r}, 3)
	}
	for _, r := range someRecs() {
		for _, seq := range frameNumbers {
			for _, gen := range frameNumbers {
				framesRight(t, impl.Item{Seq: seq, Rec: r}, gen)
			}
		}
	}
}

func refusesItem(t *testing.T, x impl.Item, gen int) {
	t.Helper()
	if f, ok := impl.ItemFrame(x, gen); ok || f != (impl.Frame{}) {
		t.Errorf("with Gen %d the frame of %#v is %#v, %v", gen, x, f, ok)
	}
}

func TestItemFrameRefuses(t *testing.T) {
	for _, r := range wrongRecs() {
		refusesItem(t, impl.Item{Seq: 1, Rec: r}, 1)
		refusesItem(t, impl.Item{Seq: impl.MaxNumber, Rec: r}, impl.MaxNumber)
		refusesItem(t, impl.Item{Seq: 0, Rec: r}, 0)
	}
	for _, r := range someRecs() {
		for _, n := range wrongFrameNumbers {
			refusesItem(t, impl.Item{Seq: n, Rec: r}, 1)
			refusesItem(t, impl.Item{Seq: 1, Rec: r}, n)
			refusesItem(t, impl.Item{Seq: n, Rec: r}, n)
		}
	}
}

func refusesFrameItem(t *testing.T, f impl.Frame) {
	t.Helper()
	if x, ok := impl.FrameItem(f); ok || x != (impl.Item{}) {
		t.Errorf("of the frame %#v the item is %#v, %v", f, x, ok)
	}
}

func TestFrameItemRefusesFramesThatAreNotRight(t *testing.T) {
	for _, f := range wrongFrames() {
		refusesFrameItem(t, f)
	}
	for _, r := range someRecs() {
		for _, n := range wrongFrameNumbers {
			refusesFrameItem(t, impl.Frame{Gen: n, Seq: 1, Body: recAsSaid(r)})
			refusesFrameItem(t, impl.Frame{Gen: 1, Seq: n, Body: recAsSaid(r)})
			refusesFrameItem(t, impl.Frame{Gen: n, Seq: n, Body: recAsSaid(r)})
		}
	}
}

func TestFrameItemRefusesOtherBodies(t *testing.T) {
	for _, f := range rightFrames() {
		refusesFrameItem(t, f)
	}
	for _, r := range someRecs() {
		text := recAsSaid(r)
		more := text + strings.Repeat("\x00", impl.MaxBody-len(text))
		for _, body := range []string{more, text + "\x00", text[1:], text[:len(text)-1], "seg" + text} {
			refusesFrameItem(t, impl.Frame{Gen: 2, Seq: 3, Body: body})
		}
	}
}

func TestItemsComeBackFromASegment(t *testing.T) {
	items, text := []impl.Item{}, frameAsSaid(segMark(9))
	for i, r := range plainRecs() {
		x := impl.Item{Seq: impl.MaxNumber - i, Rec: r}
		f, _ := impl.ItemFrame(x, 9)
		items, text = append(items, x), text+frameAsSaid(f)
	}
	list, end := impl.SegFrames(withSegment(t, sectorsOf(impl.MinSegs), 2, text), 2)
	got := []impl.Item{}
	for _, f := range list {
		x, ok := impl.FrameItem(f)
		if !ok {
			t.Errorf("no item of %#v", f)
		}
		got = append(got, x)
	}
	if !slices.Equal(got, items) || end != len(text) {
		t.Errorf("out of a segment come %#v, and %d", got, end)
	}
}

// roomyRec is r with texts that lie in buffers with room behind them.
func roomyRec(r impl.Rec) (impl.Rec, [3][]byte) {
	var buffers [3][]byte
	r.User, buffers[0] = roomy(r.User)
	r.Name, buffers[1] = roomy(r.Name)
	r.Text, buffers[2] = roomy(r.Text)
	return r, buffers
}

func TestNoRecordIsWrittenOn(t *testing.T) {
	for _, r := range slices.Concat(rightRecs(), wrongRecs()) {
		given, buffers := roomyRec(r)
		impl.WordOk(given.User)
		impl.RecOk(given)
		text, _ := impl.RecText(given)
		f, _ := impl.ItemFrame(impl.Item{Seq: 1, Rec: given}, 1)
		for i, s := range []string{r.User, r.Name, r.Text} {
			if string(buffers[i]) != s+"room behind it" {
				t.Errorf("a text of %#v is written on", r)
			}
		}
		for _, s := range []string{given.User, given.Name, given.Text} {
			if overlap(s, text) || overlap(s, f.Body) {
				t.Errorf("what is told of %#v shares a text with it", r)
			}
		}
	}
}

func TestNothingReadOfARecordSharesMemory(t *testing.T) {
	for _, r := range rightRecs() {
		text, buffer := roomy(recAsSaid(r))
		first, _ := impl.ReadRec(text)
		x, _ := impl.FrameItem(impl.Frame{Gen: 1, Seq: 1, Body: text})
		texts := []string{text, first.User, first.Name, first.Text, x.Rec.User, x.Rec.Name, x.Rec.Text}
		for i, s := range texts {
			for _, other := range texts[:i] {
				if overlap(s, other) {
					t.Errorf("what is read of %#v shares memory", r)
				}
			}
		}
		if string(buffer) != recAsSaid(r)+"room behind it" {
			t.Errorf("the text of %#v is written on", r)
		}
	}
	for _, r := range someRecs() {
		cut := recAsSaid(r)
		text, buffer := roomy(cut[:len(cut)-1])
		impl.ReadRec(text)
		impl.FrameItem(impl.Frame{Gen: 1, Seq: 1, Body: text})
		if string(buffer) != text+"room behind it" {
			t.Errorf("a cut text of %#v is written on", r)
		}
	}
}
