package tests

import (
	"math"
	"slices"
	"strings"
	"testing"
	"unsafe"

	"loop.example/g00287/impl"
)

// varAsSaid is the document's own words, also beyond MaxNumber.
func varAsSaid(n int) string {
	out := []byte{}
	for n > 127 {
		out = append(out, byte(n%128+128))
		n /= 128
	}
	return string(append(out, byte(n)))
}

// sealedAsSaid has a right sum behind whatever it is given.
func sealedAsSaid(text string) string {
	sum := sumBitByBit(math.MaxUint32, text)
	return text + string([]byte{byte(sum >> 24), byte(sum >> 16), byte(sum >> 8), byte(sum)})
}

// frameAsSaid is the document's own words, also of a frame that is not right
// (as long as nothing in it is below 0).
func frameAsSaid(f impl.Frame) string {
	return sealedAsSaid(varAsSaid(f.Gen) + varAsSaid(f.Seq) + varAsSaid(len(f.Body)) + f.Body)
}

func framesAsSaid(list []impl.Frame) string {
	var out strings.Builder
	for _, f := range list {
		out.WriteString(frameAsSaid(f))
	}
	return out.String()
}

// bodyOf has n bytes of any kind.
func bodyOf(n int) string {
	b := make([]byte, n)
	for i := range b {
		b[i] = byte(7*i + n)
	}
	return string(b)
}

var frameNumbers = []int{1, 2, 126, 127, 128, 129, 16383, 16384, 2097151, 2097152, 268435455, 268435456, impl.MaxNumber - 1, impl.MaxNumber}

var wrongFrameNumbers = []int{0, -1, -127, -128, math.MinInt, impl.MaxNumber + 1, 2 * impl.MaxNumber, 1 << 32, math.MaxInt}

// rightFrames has every limit met exactly.
func rightFrames() []impl.Frame {
	list := []impl.Frame{}
	for _, n := range frameNumbers {
		list = append(list,
			impl.Frame{Gen: n, Seq: 1, Body: "seg"},
			impl.Frame{Gen: 1, Seq: n, Body: "seg"},
			impl.Frame{Gen: n, Seq: n, Body: bodyOf(impl.MaxBody)})
	}
	for _, n := range []int{1, 2, 3, 31, 32, 126, 127, 128, 129, impl.MaxBody - 1, impl.MaxBody} {
		list = append(list,
			impl.Frame{Gen: 3, Seq: 200, Body: bodyOf(n)},
			impl.Frame{Gen: 3, Seq: 200, Body: strings.Repeat("\x00", n)},
			impl.Frame{Gen: 300, Seq: 2, Body: strings.Repeat("\xff", n)})
	}
	for c := range 256 {
		list = append(list, impl.Frame{Gen: 1, Seq: 1, Body: string([]byte{byte(c)})})
	}
	return list
}

// wrongFrames has every way not to be right, alone and with all else right.
func wrongFrames() []impl.Frame {
	list := []impl.Frame{{}, {Body: "seg"}, {Gen: 1}, {Seq: 1}, {Gen: impl.MaxNumber + 1, Seq: -1, Body: bodyOf(impl.MaxBody + 1)}}
	for _, n := range wrongFrameNumbers {
		list = append(list,
			impl.Frame{Gen: n, Seq: 1, Body: "seg"},
			impl.Frame{Gen: 1, Seq: n, Body: "seg"},
			impl.Frame{Gen: n, Seq: n, Body: "seg"})
	}
	for _, n := range []int{0, impl.MaxBody + 1, impl.MaxBody + 2, 2 * impl.MaxBody, 256, 257, impl.MaxText, impl.MaxText + 1} {
		list = append(list, impl.Frame{Gen: 1, Seq: 1, Body: bodyOf(n)})
	}
	return list
}

// someFrames has n of one Gen, all unlike, of several lengths; their Seqs are
// in no order.
func someFrames(gen, n int) []impl.Frame {
	list := []impl.Frame{}
	for i := range n {
		list = append(list, impl.Frame{Gen: gen, Seq: 1 + i*97%150, Body: bodyOf(1 + i*41%40)})
	}
	return list
}

func refusesFrame(t *testing.T, what, text string, at int) {
	t.Helper()
	if f, behind, ok := impl.ReadFrame(text, at); ok || behind != 0 || f != (impl.Frame{}) {
		t.Errorf("%s: at %d of %d bytes a frame %d, %d of %d bytes is read, %d, %v", what, at, len(text), f.Gen, f.Seq, len(f.Body), behind, ok)
	}
}

func readsFrame(t *testing.T, what, text string, at int, want impl.Frame, end int) {
	t.Helper()
	if f, behind, ok := impl.ReadFrame(text, at); !ok || behind != end || f != want {
		t.Errorf("%s: at %d of %d bytes a frame %d, %d of %d bytes is read, %d, %v", what, at, len(text), f.Gen, f.Seq, len(f.Body), behind, ok)
	}
}

func scansFrames(t *testing.T, what, text string, gen int, want []impl.Frame, end int) {
	t.Helper()
	if list, behind := impl.ScanFrames(text, gen); !slices.Equal(list, want) || behind != end {
		t.Errorf("%s: of %d bytes with Gen %d there are %d frames, and %d, not %d, and %d", what, len(text), gen, len(list), behind, len(want), end)
	}
}

func TestFrameLimits(t *testing.T) {
	if impl.MaxBody != 180 {
		t.Error("a limit is not what the document says")
	}
}

func TestFrameOk(t *testing.T) {
	for _, f := range rightFrames() {
		if !impl.FrameOk(f) {
			t.Errorf("not right: %d, %d, %d bytes", f.Gen, f.Seq, len(f.Body))
		}
	}
	for _, f := range wrongFrames() {
		if impl.FrameOk(f) {
			t.Errorf("right: %d, %d, %d bytes", f.Gen, f.Seq, len(f.Body))
		}
	}
}

func TestFrameTextOfKnownFrames(t *testing.T) {
	for _, c := range []struct {
		f     impl.Frame
		ahead string
	}{
		{impl.Frame{Gen: 1, Seq: 2, Body: "hi"}, "\x01\x02\x02hi"},
		{impl.Frame{Gen: 127, Seq: 128, Body: "\x00"}, "\x7f\x80\x01\x01\x00"},
		{impl.Frame{Gen: 300, Seq: impl.MaxNumber, Body: "seg"}, "\xac\x02\x80\x94\xeb\xdc\x03\x03seg"},
		{impl.Frame{Gen: impl.MaxNumber, Seq: 1, Body: bodyOf(180)}, "\x80\x94\xeb\xdc\x03\x01\xb4\x01" + bodyOf(180)},
	} {
		got, ok := impl.FrameText(c.f)
		if want := sealedAsSaid(c.ahead); !ok || got != want {
			t.Errorf("FrameText of %d, %d, %d bytes is %q, %v, not %q", c.f.Gen, c.f.Seq, len(c.f.Body), got, ok, want)
		}
	}
}

func TestFrameTextIsWhatTheDocumentSays(t *testing.T) {
	for _, f := range rightFrames() {
		if got, ok := impl.FrameText(f); !ok || got != frameAsSaid(f) {
			t.Errorf("FrameText of %d, %d, %d bytes is %q, %v", f.Gen, f.Seq, len(f.Body), got, ok)
		}
	}
}

func TestFrameTextRefuses(t *testing.T) {
	for _, f := range wrongFrames() {
		if got, ok := impl.FrameText(f); ok || got != "" {
			t.Errorf("FrameText of %d, %d, %d bytes is %q, %v", f.Gen, f.Seq, len(f.Body), got, ok)
		}
	}
}

func TestFrameSize(t *testing.T) {
	for _, f := range rightFrames() {
		text, _ := impl.FrameText(f)
		if got := impl.FrameSize(f); got != len(text) || got != len(frameAsSaid(f)) {
			t.Errorf("FrameSize of %d, %d, %d bytes is %d", f.Gen, f.Seq, len(f.Body), got)
		}
	}
	for _, f := range wrongFrames() {
		if got := impl.FrameSize(f); got != 0 {
			t.Errorf("FrameSize of %d, %d, %d bytes is %d", f.Gen, f.Seq, len(f.Body), got)
		}
	}
	for _, c := range []struct{ gen, seq, body, want int }{
		{1, 1, 1, 8}, {127, 127, 127, 134}, {128, 128, 128, 138}, {impl.MaxNumber, impl.MaxNumber, impl.MaxBody, 196},
	} {
		if got := impl.FrameSize(impl.Frame{Gen: c.gen, Seq: c.seq, Body: bodyOf(c.body)}); got != c.want {
			t.Errorf("FrameSize of %d, %d, %d bytes is %d, not %d", c.gen, c.seq, c.body, got, c.want)
		}
	}
}

func TestReadFrameReadsBack(t *testing.T) {
	for _, f := range rightFrames() {
		text, _ := impl.FrameText(f)
		readsFrame(t, "alone", text, 0, f, len(text))
		for _, ahead := range []string{"x", "\x00", "\x80", "\x01\x02", bodyOf(300), text} {
			for _, behind := range []string{"", "x", "\x00", bodyOf(300), text} {
				readsFrame(t, "with bytes around it", ahead+text+behind, len(ahead), f, len(ahead)+len(text))
			}
		}
	}
}

func TestReadFrameWhereNoneStands(t *testing.T) {
	list := someFrames(5, 6)
	text := framesAsSaid(list)
	at := 0
	for _, f := range list {
		end := at + len(frameAsSaid(f))
		readsFrame(t, "one of several", text, at, f, end)
		for inside := at + 1; inside < end; inside++ {
			refusesFrame(t, "within a frame", text, inside)
		}
		at = end
	}
	refusesFrame(t, "at the end", text, len(text))
}

func TestReadFrameWhereThereIsNoPlace(t *testing.T) {
	for _, text := range []string{"", "\x00", frameAsSaid(impl.Frame{Gen: 1, Seq: 2, Body: "hi"}), framesAsSaid(someFrames(1, 3))} {
		n := len(text)
		for _, at := range []int{-1, -2, -n - 1, math.MinInt, math.MinInt + 1, n, n + 1, 2*n + 1, impl.MaxNumber, math.MaxInt - 4, math.MaxInt} {
			refusesFrame(t, "no place", text, at)
		}
	}
	refusesFrame(t, "an empty text", "", 0)
}

func TestReadFrameOfWhatIsCut(t *testing.T) {
	for _, f := range rightFrames() {
		text := frameAsSaid(f)
		for n := range len(text) {
			refusesFrame(t, "cut", text[:n], 0)
			refusesFrame(t, "cut, with bytes ahead", "\x01\x02"+text[:n], 2)
		}
	}
}

func TestReadFrameRefusesOneByteTurned(t *testing.T) {
	for _, f := range []impl.Frame{
		{Gen: 1, Seq: 2, Body: "hi"}, {Gen: 128, Seq: 127, Body: "\x00"}, {Gen: 5, Seq: impl.MaxNumber, Body: "seg"},
		{Gen: impl.MaxNumber, Seq: 1, Body: bodyOf(40)}, {Gen: 9, Seq: 128, Body: bodyOf(impl.MaxBody)},
	} {
		text := frameAsSaid(f)
		for i := range len(text) {
			for turn := 1; turn < 256; turn++ {
				turned := text[:i] + string([]byte{text[i] ^ byte(turn)}) + text[i+1:]
				refusesFrame(t, "one byte turned", turned, 0)
				refusesFrame(t, "one byte turned, with bytes around it", "x"+turned+text, 1)
			}
		}
	}
}

// What is in such a text has a right sum; it is refused for what it is.
func TestReadFrameRefusesWhatNoFrameTextWrites(t *testing.T) {
	for _, c := range []struct{ what, ahead string }{
		{"nothing", ""},
		{"noughts", "\x00\x00\x00"},
		{"Gen in a longer form", "\x81\x00\x02\x02hi"},
		{"Gen in a far longer form", "\x81\x80\x80\x80\x00\x02\x02hi"},
		{"Seq in a longer form", "\x01\x82\x00\x02hi"},
		{"the length in a longer form", "\x01\x02\x82\x00hi"},
		{"all in a longer form", "\x81\x00\x82\x00\x82\x00hi"},
		{"Gen of 0", "\x00\x02\x02hi"},
		{"Gen of 0 in a longer form", "\x80\x00\x02\x02hi"},
		{"Seq of 0", "\x01\x00\x02hi"},
		{"Gen and Seq of 0", "\x00\x00\x02hi"},
		{"Gen of MaxNumber and 1", varAsSaid(impl.MaxNumber+1) + "\x02\x02hi"},
		{"Seq of MaxNumber and 1", "\x01" + varAsSaid(impl.MaxNumber+1) + "\x02hi"},
		{"Gen of six bytes", varAsSaid(1<<35) + "\x02\x02hi"},
		{"Gen that wraps round to 1", "\x81\x80\x80\x80\x80\x80\x80\x80\x80\x80\x01\x02\x02hi"},
		{"an empty Body", "\x01\x02\x00"},
		{"a Body of MaxBody and 1 bytes", "\x01\x02" + varAsSaid(impl.MaxBody+1) + bodyOf(impl.MaxBody+1)},
		{"a Body of MaxText bytes", "\x01\x02" + varAsSaid(impl.MaxText) + bodyOf(impl.MaxText)},
		{"a Body of MaxText and 1 bytes", "\x01\x02" + varAsSaid(impl.MaxText+1) + bodyOf(impl.MaxText+1)},
		{"a length that is too great", "\x01\x02\x03hi"},
		{"a length that is too small", "\x01\x02\x01hi"},
		{"a length that is far too great", "\x01\x02" + varAsSaid(impl.MaxNumber) + "hi"},
		{"no Body", "\x01\x02"},
		{"no Seq", "\x01"},
	} {
		text := sealedAsSaid(c.ahead)
		refusesFrame(t, c.what, text, 0)
		refusesFrame(t, c.what+", with bytes around it", "x"+text+"x", 1)
		for gen := range 3 {
			scansFrames(t, c.what, text, gen, nil, 0)
		}
	}
}

func TestReadFrameRefusesAnotherSum(t *testing.T) {
	body := "\x01\x02\x02hi"
	sum := sealedAsSaid(body)[len(body):]
	for what, four := range map[string]string{
		"lowest byte first":  string([]byte{sum[3], sum[2], sum[1], sum[0]}),
		"noughts":            "\x00\x00\x00\x00",
		"full":               "\xff\xff\xff\xff",
		"of the Body alone":  sealedAsSaid("hi")[2:],
		"of another frame":   sealedAsSaid("\x01\x03\x02hi")[len(body):],
		"with all bits over": string([]byte{^sum[0], ^sum[1], ^sum[2], ^sum[3]}),
	} {
		refusesFrame(t, what, body+four, 0)
		scansFrames(t, what, body+four, 1, nil, 0)
	}
}

func TestScanFramesReadsAllInOrder(t *testing.T) {
	for _, gen := range frameNumbers {
		for _, n := range []int{0, 1, 2, 3, 10, 200} {
			list := someFrames(gen, n)
			text := framesAsSaid(list)
			scansFrames(t, "several", text, gen, list, len(text))
			for _, behind := range []string{"\x00", "x", "\xff\xff", strings.Repeat("\x00", 200), frameAsSaid(impl.Frame{Gen: 1, Seq: 1, Body: "hi"})[:5]} {
				scansFrames(t, "with bytes behind", text+behind, gen, list, len(text))
				scansFrames(t, "with bytes ahead", behind+text, gen, nil, 0)
			}
		}
	}
}

func TestScanFramesOfWhatIsLongerThanAText(t *testing.T) {
	list := []impl.Frame{}
	for i := range 3 * impl.MaxText / impl.MaxBody {
		list = append(list, impl.Frame{Gen: impl.MaxNumber, Seq: impl.MaxNumber - i, Body: bodyOf(impl.MaxBody)})
	}
	text := framesAsSaid(list)
	scansFrames(t, "a long text", text, impl.MaxNumber, list, len(text))
}

func TestScanFramesOfTheSameOneAgain(t *testing.T) {
	f := impl.Frame{Gen: 4, Seq: 9, Body: "again"}
	list := []impl.Frame{f, f, f, {Gen: 4, Seq: 8, Body: "again"}, f}
	text := framesAsSaid(list)
	scansFrames(t, "the same one again", text, 4, list, len(text))
}

// wholeOf has those of the frames that end within n bytes, and the place
// behind them.
func wholeOf(list []impl.Frame, n int) ([]impl.Frame, int) {
	end := 0
	for i, f := range list {
		next := end + len(frameAsSaid(f))
		if next > n {
			return list[:i], end
		}
		end = next
	}
	return list, end
}

func TestScanFramesOfWhatIsCut(t *testing.T) {
	for _, gen := range []int{1, 127, 128, impl.MaxNumber} {
		list := append(someFrames(gen, 7), impl.Frame{Gen: gen, Seq: impl.MaxNumber, Body: bodyOf(impl.MaxBody)})
		text := framesAsSaid(list)
		for n := range len(text) + 1 {
			whole, end := wholeOf(list, n)
			scansFrames(t, "cut", text[:n], gen, whole, end)
			whole, end = wholeOf(list, pastNoughts(text, n))
			scansFrames(t, "cut, with noughts behind", text[:n]+strings.Repeat("\x00", len(text)-n), gen, whole, end)
		}
	}
}

// pastNoughts goes on from n as far as noughts alone stand: a text that is cut
// ahead of them has them all the same where noughts lie behind, as they do on
// a new disk.
func pastNoughts(text string, n int) int {
	for n < len(text) && text[n] == 0 {
		n++
	}
	return n
}

func TestScanFramesOfOneByteTurned(t *testing.T) {
	list := someFrames(7, 5)
	text := framesAsSaid(list)
	for i := range len(text) {
		whole, end := wholeOf(list, i)
		for _, turn := range []byte{1, 2, 16, 128, 255} {
			turned := text[:i] + string([]byte{text[i] ^ turn}) + text[i+1:]
			scansFrames(t, "one byte turned", turned, 7, whole, end)
		}
	}
}

func TestScanFramesOfAnotherGen(t *testing.T) {
	list := someFrames(6, 5)
	text := framesAsSaid(list)
	for _, gen := range []int{1, 5, 7, 128, impl.MaxNumber} {
		scansFrames(t, "all of another Gen", text, gen, nil, 0)
		for i := range len(list) {
			mixed := slices.Clone(list)
			mixed[i].Gen = gen
			whole := framesAsSaid(mixed)
			scansFrames(t, "one of another Gen", whole, 6, list[:i], len(framesAsSaid(list[:i])))
			want := mixed[:0]
			if i == 0 {
				want = mixed[:1]
			}
			scansFrames(t, "one of this Gen", whole, gen, want, len(framesAsSaid(want)))
		}
	}
}

func TestScanFramesOfAnEmptyText(t *testing.T) {
	for _, gen := range append(slices.Clone(frameNumbers), wrongFrameNumbers...) {
		scansFrames(t, "an empty text", "", gen, nil, 0)
	}
}

func TestScanFramesOfAWrongGen(t *testing.T) {
	texts := []string{framesAsSaid(someFrames(1, 3)), framesAsSaid(someFrames(impl.MaxNumber, 3)), strings.Repeat("\x00", 256)}
	for _, gen := range wrongFrameNumbers {
		given := texts
		if gen >= 0 {
			given = append(slices.Clone(texts), framesAsSaid(someFrames(gen, 3)))
		}
		for _, text := range given {
			scansFrames(t, "a wrong Gen", text, gen, nil, 0)
		}
	}
}

// roomy is a text that lies at the beginning of a buffer with room behind it.
func roomy(text string) (string, []byte) {
	buffer := append([]byte(text), "room behind it"...)
	return unsafe.String(&buffer[0], len(text)), buffer
}

// overlap tells whether two texts have a byte of memory in common.
func overlap(a, b string) bool {
	if a == "" || b == "" {
		return false
	}
	fromA, fromB := uintptr(unsafe.Pointer(unsafe.StringData(a))), uintptr(unsafe.Pointer(unsafe.StringData(b)))
	return fromA < fromB+uintptr(len(b)) && fromB < fromA+uintptr(len(a))
}

func TestNoFrameSharesMemory(t *testing.T) {
	for _, f := range rightFrames() {
		body, buffer := roomy(f.Body)
		given := impl.Frame{Gen: f.Gen, Seq: f.Seq, Body: body}
		text, _ := impl.FrameText(given)
		if overlap(text, body) {
			t.Errorf("FrameText shares a Body of %d bytes", len(body))
		}
		if !impl.FrameOk(given) || impl.FrameSize(given) != len(text) || string(buffer) != f.Body+"room behind it" {
			t.Errorf("a Body of %d bytes is written on", len(body))
		}
		read, there := roomy(text)
		back, _, _ := impl.ReadFrame(read, 0)
		if overlap(back.Body, read) || string(there) != text+"room behind it" {
			t.Errorf("ReadFrame shares the text of %d bytes, or writes on it", len(text))
		}
	}
}

func TestNoListOfFramesSharesMemory(t *testing.T) {
	list := someFrames(2, 9)
	plain := framesAsSaid(list)
	text, buffer := roomy(plain)
	first, _ := impl.ScanFrames(text, 2)
	second, _ := impl.ScanFrames(text, 2)
	bodies := []string{text}
	for _, f := range slices.Concat(first, second) {
		for _, other := range bodies {
			if overlap(f.Body, other) {
				t.Fatal("a Body of ScanFrames is the text's, or another one's")
			}
		}
		bodies = append(bodies, f.Body)
	}
	for i := range first[:cap(first)] {
		first[:cap(first)][i] = impl.Frame{Gen: 77, Body: "scribble"}
	}
	if !slices.Equal(second, list) {
		t.Error("two lists of ScanFrames share memory")
	}
	scansFrames(t, "after a list was written on", text, 2, list, len(text))
	if string(buffer) != plain+"room behind it" {
		t.Error("ScanFrames writes on its text")
	}
}
