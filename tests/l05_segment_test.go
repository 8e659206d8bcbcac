package tests

import (
	"math"
	"slices"
	"strings"
	"testing"

	"loop.example/g00287/impl"
)

// wrongSegs are numbers of no segment of any disk, among them those whose
// sectors would be others' if they wrapped round.
var wrongSegs = []int{-1, -2, -impl.MaxSegs, impl.MaxSegs, impl.MaxSegs + 1, 2 * impl.MaxSegs, 1 << 32, 1 << 61, 1<<61 + 1, -1 << 61, 1 - 1<<61, math.MaxInt, math.MaxInt - 1, math.MinInt, math.MinInt + 1}

// sectorsOf is how many sectors a disk has that ends with its n-th segment.
func sectorsOf(segs int) int {
	return 8 + 8*segs
}

// unlikeDisk has n sectors of bytes that stand nowhere else on it for 251
// bytes.
func unlikeDisk(n int, cache ...impl.Write) impl.Disk {
	d := impl.Disk{Cache: cache}
	for i := range n {
		b := make([]byte, impl.SectorSize)
		for k := range b {
			b[k] = byte((i*impl.SectorSize + k) % 251)
		}
		d.Sectors = append(d.Sectors, string(b))
	}
	return d
}

// readWhole is all of the disk as it is read, sector behind sector.
func readWhole(d impl.Disk) string {
	var out strings.Builder
	for at := range d.Sectors {
		out.WriteString(readAsSaid(d, at))
	}
	return out.String()
}

// segTextAsSaid is the document's own words.
func segTextAsSaid(d impl.Disk, seg int) string {
	if seg < 0 || seg > 10 || len(d.Sectors) < 8+8*seg+8 {
		return ""
	}
	text := ""
	for i := range 8 {
		text += readAsSaid(d, 8+8*seg+i)
	}
	return text
}

// withSegment is a disk of so many sectors with this text at the beginning of
// a segment, written as chapter 3 has it.
func withSegment(t *testing.T, sectors, seg int, text string) impl.Disk {
	t.Helper()
	d, ok := impl.WriteBytes(unlikeDisk(sectors), sectorsOf(seg), 0, text)
	if !ok {
		t.Fatalf("%d bytes are not written in segment %d of %d sectors", len(text), seg, sectors)
	}
	return d
}

func segMark(gen int) impl.Frame {
	return impl.Frame{Gen: gen, Seq: 1, Body: "seg"}
}

// segHas asks for the Gen, the frames and the place behind them, before and
// after they are flushed.
func segHas(t *testing.T, what string, d impl.Disk, seg, gen int, want []impl.Frame, end int) {
	t.Helper()
	for _, given := range []impl.Disk{d, impl.FlushDisk(d)} {
		if got := impl.SegGen(given, seg); got != gen {
			t.Errorf("%s: segment %d has Gen %d, not %d", what, seg, got, gen)
		}
		if list, behind := impl.SegFrames(given, seg); !slices.Equal(list, want) || behind != end {
			t.Errorf("%s: segment %d has %d frames, and %d, not %d, and %d", what, seg, len(list), behind, len(want), end)
		}
	}
}

func TestSegmentLimits(t *testing.T) {
	if impl.CheckSectors != 4 || impl.SegSectors != 8 || impl.SegSize != 256 || impl.MinSegs != 5 || impl.MaxSegs != 11 {
		t.Error("a limit is not what the document says")
	}
}

func TestSegFirst(t *testing.T) {
	for seg, want := range []int{8, 16, 24, 32, 40, 48, 56, 64, 72, 80, 88} {
		if got := impl.SegFirst(seg); got != want {
			t.Errorf("SegFirst(%d) = %d, not %d", seg, got, want)
		}
	}
	for _, seg := range wrongSegs {
		if got := impl.SegFirst(seg); got != 0 {
			t.Errorf("SegFirst(%d) = %d", seg, got)
		}
	}
}

func TestSegTextOfEachNumberOfSectors(t *testing.T) {
	for sectors := range impl.MaxSectors + 1 {
		d := unlikeDisk(sectors)
		if sectors > 0 {
			d.Cache = cacheOf(9, sectors)
		}
		for seg := range impl.MaxSegs {
			want := segTextAsSaid(d, seg)
			if got := impl.SegText(d, seg); got != want || len(got) != 0 && len(got) != impl.SegSize {
				t.Errorf("segment %d of %d sectors has %d bytes, not those %d", seg, sectors, len(got), len(want))
			}
		}
	}
}

func TestSegTextReadsWhatWaits(t *testing.T) {
	d := unlikeDisk(sectorsOf(6),
		impl.Write{At: 7, Text: filled('7')}, impl.Write{At: 8, Text: filled('8')}, impl.Write{At: 15, Text: filled('f')},
		impl.Write{At: 16, Text: filled('g')}, impl.Write{At: 8, Text: counted(9)})
	want := counted(9) + readWhole(unlikeDisk(15))[9*impl.SectorSize:] + filled('f')
	if got := impl.SegText(d, 0); got != want {
		t.Errorf("segment 0 is read as %q", got)
	}
	if got := impl.SegText(d, 1); !strings.HasPrefix(got, filled('g')+d.Sectors[17]) {
		t.Errorf("segment 1 is read as %q", got)
	}
}

func TestSegTextWhereThereIsNone(t *testing.T) {
	for _, sectors := range []int{1, 8, 9, 15, sectorsOf(5), impl.MaxSectors} {
		for _, seg := range wrongSegs {
			if got := impl.SegText(unlikeDisk(sectors), seg); got != "" {
				t.Errorf("segment %d of %d sectors has %d bytes", seg, sectors, len(got))
			}
		}
	}
	for seg := range impl.MaxSegs {
		for missing := 1; missing <= 9; missing++ {
			if got := impl.SegText(unlikeDisk(sectorsOf(seg+1)-missing), seg); got != "" {
				t.Errorf("segment %d without %d of its sectors has %d bytes", seg, missing, len(got))
			}
		}
	}
}

// SegText and what is read of it do not ask whether the disk is right.
func TestSegTextOfADiskThatIsNotRight(t *testing.T) {
	disks := wrongSegmentDisks()
	for name, d := range wrongDisks() {
		disks[name] = d
	}
	for name, d := range disks {
		for seg := -1; seg <= impl.MaxSegs+1; seg++ {
			if got, want := impl.SegText(d, seg), segTextAsSaid(d, seg); got != want {
				t.Errorf("%s: segment %d has %d bytes, not those %d", name, seg, len(got), len(want))
			}
		}
	}
}

// wrongSegmentDisks are disks that have segments, but are not right.
func wrongSegmentDisks() map[string]impl.Disk {
	withSector := func(at int, text string) impl.Disk {
		d := unlikeDisk(sectorsOf(6), impl.Write{At: 9, Text: filled('9')})
		d.Sectors[at] = text
		return d
	}
	return map[string]impl.Disk{
		"one sector too many":               unlikeDisk(impl.MaxSectors + 1),
		"sectors for one segment more":      unlikeDisk(sectorsOf(impl.MaxSegs + 1)),
		"a sector of a segment too short":   withSector(20, filled('s')[1:]),
		"a sector of a segment too long":    withSector(20, filled('l')+"l"),
		"an empty sector of a segment":      withSector(20, ""),
		"an empty sector ahead of segments": withSector(0, ""),
		"an empty last sector":              withSector(sectorsOf(6)-1, ""),
		"a write that is too short":         unlikeDisk(sectorsOf(6), impl.Write{At: 10, Text: "short"}),
		"a write of no sector":              unlikeDisk(sectorsOf(6), impl.Write{At: sectorsOf(6), Text: filled('w')}),
		"one write too many":                unlikeDisk(sectorsOf(6), cacheOf(impl.MaxCache+1, 30)...),
	}
}

func TestSegsOfEachNumberOfSectors(t *testing.T) {
	for sectors := range 300 {
		want := 0
		for segs := 5; segs <= 11; segs++ {
			if sectors >= sectorsOf(segs) && sectors < sectorsOf(segs+1) {
				want = segs
			}
		}
		if got := impl.SegsOf(unlikeDisk(sectors)); got != want {
			t.Errorf("%d sectors have %d segments, not %d", sectors, got, want)
		}
	}
}

func TestSegsOfKnownDisks(t *testing.T) {
	for sectors, want := range map[int]int{
		0: 0, 1: 0, 7: 0, 8: 0, 16: 0, 47: 0, 48: 5, 49: 5, 55: 5, 56: 6, 87: 9, 88: 10, 95: 10, 96: 11, 97: 11, 100: 11, 103: 11, 104: 0, 105: 0, 1000: 0,
	} {
		if got := impl.SegsOf(unlikeDisk(sectors)); got != want {
			t.Errorf("%d sectors have %d segments, not %d", sectors, got, want)
		}
	}
}

// SegsOf counts the sectors, and looks at nothing else.
func TestSegsOfADiskThatIsNotRight(t *testing.T) {
	for name, want := range map[string]int{
		"one sector too many": 11, "sectors for one segment more": 0, "a sector of a segment too short": 6, "a sector of a segment too long": 6,
		"an empty sector of a segment": 6, "a write that is too short": 6, "a write of no sector": 6, "one write too many": 6,
	} {
		if got := impl.SegsOf(wrongSegmentDisks()[name]); got != want {
			t.Errorf("%s: %d segments, not %d", name, got, want)
		}
	}
	full := impl.Disk{Sectors: make([]string, sectorsOf(7)), Cache: cacheOf(impl.MaxCache, 7)}
	if got := impl.SegsOf(full); got != 7 {
		t.Errorf("%d sectors of nothing have %d segments", len(full.Sectors), got)
	}
}

// segWritesAsSaid asks that just this text stands at its place, that it waits
// sector by sector, and that nothing else is touched.
func segWritesAsSaid(t *testing.T, d impl.Disk, seg, at int, text string) {
	t.Helper()
	before := readWhole(d)
	from := (8+8*seg)*impl.SectorSize + at
	want := ofDisk(d)
	after := before[:from] + text + before[from+len(text):]
	for place := range d.Sectors {
		first, end := place*impl.SectorSize, (place+1)*impl.SectorSize
		if len(text) > 0 && first < from+len(text) && from < end {
			want.Cache = append(want.Cache, impl.Write{At: place, Text: after[first:end]})
		}
	}
	got, ok := impl.SegWrite(d, seg, at, text)
	if !ok || !sameDisk(got, want) {
		t.Errorf("SegWrite of %d bytes at %d of segment %d: %v, %d writes, not %d", len(text), at, seg, ok, len(got.Cache), len(want.Cache))
		return
	}
	if readWhole(got) != after || readWhole(impl.FlushDisk(got)) != after {
		t.Errorf("%d bytes at %d of segment %d stand elsewhere, or not as they were", len(text), at, seg)
	}
}

func refusesSegWrite(t *testing.T, what string, d impl.Disk, seg, at int, text string) {
	t.Helper()
	before := ofDisk(d)
	if got, ok := impl.SegWrite(d, seg, at, text); ok || !sameDisk(got, before) {
		t.Errorf("%s: SegWrite of %d bytes at %d of segment %d: %v, %d writes", what, len(text), at, seg, ok, len(got.Cache))
	}
}

// Promise 5, as SegText tells it.
func TestWhatIsWrittenInASegmentStandsThereAndNowhereElse(t *testing.T) {
	for _, segs := range []int{impl.MinSegs, 7, impl.MaxSegs} {
		d := unlikeDisk(sectorsOf(segs), impl.Write{At: 17, Text: filled('!')}, impl.Write{At: 3, Text: filled('?')})
		for seg := range segs {
			for _, at := range []int{0, 1, 31, 32, 33, 100, 224, 246} {
				got, ok := impl.SegWrite(d, seg, at, "some bytes")
				if !ok {
					t.Fatalf("SegWrite at %d of segment %d of %d is false", at, seg, segs)
				}
				for other := range segs {
					want := impl.SegText(d, other)
					if other == seg {
						want = want[:at] + "some bytes" + want[at+10:]
					}
					if impl.SegText(got, other) != want || impl.SegText(impl.FlushDisk(got), other) != want {
						t.Errorf("written at %d of segment %d of %d: segment %d is another", at, seg, segs, other)
					}
				}
				was, _ := impl.SectorText(d, 0, 8)
				if is, _ := impl.SectorText(got, 0, 8); is != was {
					t.Errorf("written at %d of segment %d: the sectors ahead of the segments are others", at, seg)
				}
			}
		}
	}
}

func TestSegWrite(t *testing.T) {
	for _, segs := range []int{impl.MinSegs, 8, impl.MaxSegs} {
		d := unlikeDisk(sectorsOf(segs), impl.Write{At: 9, Text: counted(200)}, impl.Write{At: 9, Text: counted(100)}, impl.Write{At: sectorsOf(segs) - 1, Text: counted(50)})
		for _, seg := range []int{0, 1, segs / 2, segs - 1} {
			for _, at := range []int{0, 1, 30, 31, 32, 33, 63, 64, 127, 191, 223, 224, 225, 254, 255, 256} {
				for _, n := range []int{0, 1, 2, 31, 32, 33, 64, 65, 128, 223, 224, 225, 255, 256} {
					if at+n <= impl.SegSize {
						segWritesAsSaid(t, d, seg, at, strings.Repeat("\xf7", n))
					}
				}
			}
		}
	}
}

func TestSegWriteToTheEndOfASegment(t *testing.T) {
	for _, segs := range []int{impl.MinSegs, impl.MaxSegs} {
		d := unlikeDisk(sectorsOf(segs))
		for seg := range segs {
			for n := range impl.SegSize + 1 {
				at := impl.SegSize - n
				text := bodyOf(n)
				segWritesAsSaid(t, d, seg, at, text)
				refusesSegWrite(t, "a byte more", d, seg, at, text+"x")
				refusesSegWrite(t, "a nought more", d, seg, at, text+"\x00")
			}
		}
	}
}

func TestSegWriteBeyondTheEndOfASegment(t *testing.T) {
	d := unlikeDisk(impl.MaxSectors)
	for seg := range impl.MaxSegs {
		for _, at := range []int{0, 1, 32, 200, 255, 256} {
			for _, more := range []int{1, 2, 31, 32, 33, 256, 257, 5000, impl.MaxText} {
				refusesSegWrite(t, "beyond", d, seg, at, bodyOf(impl.SegSize-at+more))
			}
		}
	}
}

func TestSegWriteOfNoText(t *testing.T) {
	for _, segs := range []int{impl.MinSegs, impl.MaxSegs} {
		for _, cache := range [][]impl.Write{nil, cacheOf(3, 20), cacheOf(impl.MaxCache, 40)} {
			d := unlikeDisk(sectorsOf(segs), cache...)
			for seg := range segs {
				for _, at := range []int{0, 1, 32, 255, 256} {
					if got, ok := impl.SegWrite(d, seg, at, ""); !ok || !sameDisk(got, d) {
						t.Errorf("nothing at %d of segment %d: %v, %d writes", at, seg, ok, len(got.Cache))
					}
				}
			}
		}
	}
}

func TestSegWriteAtNoPlace(t *testing.T) {
	d := unlikeDisk(impl.MaxSectors, impl.Write{At: 9, Text: filled('9')})
	for seg := range impl.MaxSegs {
		for _, at := range []int{-1, -32, -256, -257, 257, 258, 288, 512, 3200, 3201, 1 << 32, 1 << 62, math.MaxInt, math.MaxInt - 255, math.MinInt, math.MinInt + 1} {
			for _, text := range []string{"", "x", filled('x'), bodyOf(256), bodyOf(257)} {
				refusesSegWrite(t, "no place", d, seg, at, text)
			}
		}
	}
}

func TestSegWriteInNoSegment(t *testing.T) {
	for _, sectors := range []int{1, 8, 16, sectorsOf(impl.MinSegs), impl.MaxSectors, sectorsOf(impl.MaxSegs + 1)} {
		d := unlikeDisk(sectors)
		for _, seg := range wrongSegs {
			for _, at := range []int{0, 1, 255, 256, -1, 257} {
				for _, text := range []string{"", "x", bodyOf(40)} {
					refusesSegWrite(t, "no segment", d, seg, at, text)
				}
			}
		}
	}
	for _, segs := range []int{0, 1, impl.MinSegs, impl.MaxSegs - 1} {
		for seg := segs; seg < impl.MaxSegs; seg++ {
			for _, at := range []int{0, 255, 256} {
				refusesSegWrite(t, "beyond the disk", unlikeDisk(sectorsOf(segs)), seg, at, "")
				refusesSegWrite(t, "beyond the disk", unlikeDisk(sectorsOf(segs)), seg, at, "x")
			}
		}
	}
}

// Of a segment that is not whole SegText and SegsOf tell nothing; what is
// there of it can be written on as WriteBytes does it.
func TestASegmentThatIsNotWhole(t *testing.T) {
	for _, segs := range []int{1, impl.MinSegs, 10} {
		for there := 1; there < impl.SegSectors; there++ {
			d := unlikeDisk(sectorsOf(segs) + there)
			size := there * impl.SectorSize
			for _, at := range []int{0, 1, size - 1} {
				segWritesAsSaid(t, d, segs, at, bodyOf(size-at))
				refusesSegWrite(t, "beyond the disk", d, segs, at, bodyOf(size-at+1))
				refusesSegWrite(t, "beyond the disk", d, segs, at, bodyOf(impl.SegSize-at))
			}
			refusesSegWrite(t, "beyond the disk", d, segs, size, "x")
			segWritesAsSaid(t, d, segs-1, 0, bodyOf(impl.SegSize))
			begun, _ := impl.SegWrite(d, segs, 0, frameAsSaid(segMark(3)))
			if got := impl.SegText(begun, segs); got != "" {
				t.Errorf("%d sectors of segment %d have %d bytes", there, segs, len(got))
			}
			segHas(t, "not whole", begun, segs, 0, nil, 0)
			if got, want := impl.SegsOf(d), impl.SegsOf(unlikeDisk(sectorsOf(segs))); got != want {
				t.Errorf("with %d sectors of segment %d there are %d segments, not %d", there, segs, got, want)
			}
		}
	}
}

func TestSegWriteFillsTheCache(t *testing.T) {
	for _, room := range []int{0, 1, 2, 7, 8} {
		d := unlikeDisk(impl.MaxSectors, cacheOf(impl.MaxCache-room, 30)...)
		for _, seg := range []int{0, 4, 10} {
			if room > 0 {
				segWritesAsSaid(t, d, seg, 0, bodyOf(room*impl.SectorSize))
				segWritesAsSaid(t, d, seg, 31, bodyOf((room-1)*impl.SectorSize+1))
			}
			if room < impl.SegSectors {
				refusesSegWrite(t, "a full Cache", d, seg, 0, bodyOf(room*impl.SectorSize+1))
				refusesSegWrite(t, "a full Cache", d, seg, impl.SegSize-room*impl.SectorSize-1, bodyOf(room*impl.SectorSize+1))
				refusesSegWrite(t, "a full Cache", d, seg, 0, bodyOf(impl.SegSize))
			}
		}
	}
}

func TestSegWriteOfADiskThatIsNotRight(t *testing.T) {
	disks := wrongSegmentDisks()
	for name, d := range wrongDisks() {
		disks[name] = d
	}
	for name, d := range disks {
		for seg := range impl.MaxSegs {
			for _, at := range []int{0, 40, 255} {
				refusesSegWrite(t, name, d, seg, at, "x")
				refusesSegWrite(t, name, d, seg, 0, bodyOf(impl.SegSize-at))
			}
			// Nothing is written of no text: no write is refused, either.
			if got, ok := impl.SegWrite(d, seg, 0, ""); ok != (len(d.Sectors) > 8+8*seg) || !sameDisk(got, d) {
				t.Errorf("%s: nothing in segment %d: %v, %d writes", name, seg, ok, len(got.Cache))
			}
		}
	}
}

func TestSegGenOfEachSegment(t *testing.T) {
	for _, sectors := range []int{sectorsOf(impl.MinSegs), sectorsOf(9) + 3, sectorsOf(impl.MaxSegs), impl.MaxSectors} {
		d := unlikeDisk(sectors)
		segs := (sectors - 8) / 8
		for seg := range segs {
			text := frameAsSaid(segMark(100 + seg))
			d, _ = impl.SegWrite(d, seg, 0, text)
			d = impl.FlushDisk(d)
			segHas(t, "one of several", d, seg, 100+seg, nil, len(text))
		}
		for seg := range segs {
			segHas(t, "all in use", d, seg, 100+seg, nil, len(frameAsSaid(segMark(100+seg))))
		}
		for _, seg := range append(slices.Clone(wrongSegs), segs) {
			segHas(t, "no segment", d, seg, 0, nil, 0)
		}
	}
}

func TestSegGenOfEachGenAndSeq(t *testing.T) {
	for _, n := range frameNumbers {
		for _, f := range []impl.Frame{{Gen: n, Seq: 1, Body: "seg"}, {Gen: 7, Seq: n, Body: "seg"}, {Gen: n, Seq: n, Body: "seg"}} {
			text := frameAsSaid(f)
			segHas(t, "the first frame alone", withSegment(t, 48, 3, text), 3, f.Gen, nil, len(text))
		}
	}
}

func TestSegGenWhereNothingIsWritten(t *testing.T) {
	d, _ := impl.DiskNew(impl.MaxSectors)
	for seg := -1; seg <= impl.MaxSegs; seg++ {
		segHas(t, "a new disk", d, seg, 0, nil, 0)
		segHas(t, "bytes of any kind", unlikeDisk(impl.MaxSectors), seg, 0, nil, 0)
		segHas(t, "no disk", impl.Disk{}, seg, 0, nil, 0)
	}
}

// The sectors ahead of the first segment are none of a segment's, whatever
// stands there.
func TestSegGenOfWhatStandsAheadOfTheSegments(t *testing.T) {
	d, _ := impl.WriteBytes(unlikeDisk(impl.MaxSectors), 0, 0, frameAsSaid(segMark(6)))
	for _, seg := range append(slices.Clone(wrongSegs), 0, 1, impl.MaxSegs-1) {
		segHas(t, "a frame in sector 0", d, seg, 0, nil, 0)
	}
	d, _ = impl.WriteBytes(unlikeDisk(impl.MaxSectors), sectorsOf(impl.MaxSegs), 0, frameAsSaid(segMark(6)))
	for _, seg := range []int{impl.MaxSegs - 1, impl.MaxSegs, impl.MaxSegs + 1} {
		segHas(t, "a frame behind the last segment", d, seg, 0, nil, 0)
	}
}

func TestSegGenOfAnotherBody(t *testing.T) {
	for _, body := range []string{"se", "segs", "Seg", "SEG", "seg\x00", "\x00seg", " seg", "seg ", "geg", "s", "\x03seg", bodyOf(3), bodyOf(180)} {
		first := impl.Frame{Gen: 4, Seq: 1, Body: body}
		text := framesAsSaid([]impl.Frame{first, segMark(4)})
		segHas(t, "another Body", withSegment(t, 48, 1, text), 1, 0, nil, 0)
	}
}

func TestSegGenOfAFrameThatDoesNotStandAtTheBeginning(t *testing.T) {
	text := framesAsSaid([]impl.Frame{segMark(4), {Gen: 4, Seq: 2, Body: "hi"}})
	for _, at := range []int{1, 2, 31, 32, 33, 128, impl.SegSize - len(text)} {
		d, _ := impl.DiskNew(48)
		for _, given := range []impl.Disk{d, unlikeDisk(48)} {
			d, ok := impl.SegWrite(given, 2, at, text)
			if !ok {
				t.Fatalf("nothing written at %d", at)
			}
			segHas(t, "not at the beginning", d, 2, 0, nil, 0)
		}
	}
}

func TestSegGenOfOneByteTurned(t *testing.T) {
	text := frameAsSaid(segMark(300))
	for i := range len(text) {
		for _, turn := range []byte{1, 2, 16, 128, 255} {
			turned := text[:i] + string([]byte{text[i] ^ turn}) + text[i+1:]
			segHas(t, "one byte turned", withSegment(t, 48, 0, turned), 0, 0, nil, 0)
		}
	}
}

func TestSegFramesReadsAllButTheFirst(t *testing.T) {
	for _, gen := range []int{1, 4, 127, 128, impl.MaxNumber} {
		for n := range 8 {
			list := someFrames(gen, n)
			text := framesAsSaid(append([]impl.Frame{segMark(gen)}, list...))
			if len(text) > impl.SegSize {
				continue
			}
			for _, seg := range []int{0, 5, 10} {
				d := withSegment(t, impl.MaxSectors, seg, text)
				segHas(t, "several", d, seg, gen, list, len(text))
				for _, other := range []int{seg - 1, seg + 1} {
					segHas(t, "a segment beside it", d, other, 0, nil, 0)
				}
			}
		}
	}
}

// Of several with the Body `seg` the first one alone is left out.
func TestSegFramesOfTheFirstOneAgain(t *testing.T) {
	again := []impl.Frame{segMark(8), {Gen: 8, Seq: 5, Body: "seg"}, {Gen: 8, Seq: 1, Body: "hi"}, segMark(8)}
	text := framesAsSaid(append([]impl.Frame{segMark(8)}, again...))
	segHas(t, "the same one again", withSegment(t, 48, 4, text), 4, 8, again, len(text))
}

func TestSegFramesOfAnotherGenBehindTheFirst(t *testing.T) {
	list := someFrames(6, 4)
	for _, gen := range []int{1, 5, 7, 128, impl.MaxNumber} {
		for i := range list {
			mixed := slices.Clone(list)
			mixed[i].Gen = gen
			text := framesAsSaid(append([]impl.Frame{segMark(6)}, mixed...))
			end := len(framesAsSaid(append([]impl.Frame{segMark(6)}, list[:i]...)))
			segHas(t, "one of another Gen", withSegment(t, 48, 2, text), 2, 6, list[:i], end)
		}
	}
}

// What an earlier use of a segment left behind what is written now is not
// read.
func TestSegFramesOfASegmentInUseAgain(t *testing.T) {
	old := framesAsSaid(append([]impl.Frame{segMark(3)}, someFrames(3, 5)...))
	d := impl.FlushDisk(withSegment(t, 48, 4, old))
	mark := frameAsSaid(segMark(9))
	d, _ = impl.SegWrite(d, 4, 0, mark)
	segHas(t, "begun again", d, 4, 9, nil, len(mark))
	next := impl.Frame{Gen: 9, Seq: 77, Body: "now"}
	d, _ = impl.SegWrite(d, 4, len(mark), frameAsSaid(next))
	segHas(t, "written on again", d, 4, 9, []impl.Frame{next}, len(mark+frameAsSaid(next)))
}

func TestSegFramesUpToTheEndOfASegment(t *testing.T) {
	mark := frameAsSaid(segMark(2))
	for _, seg := range []int{0, 4, 10} {
		for _, short := range []int{0, 1, 2, 7} {
			one := impl.Frame{Gen: 2, Seq: 3, Body: bodyOf(150)}
			size := impl.SegSize - len(mark) - len(frameAsSaid(one)) - short
			two := impl.Frame{Gen: 2, Seq: 4, Body: bodyOf(size - 7)}
			text := framesAsSaid([]impl.Frame{segMark(2), one, two})
			if len(text) != impl.SegSize-short {
				t.Fatalf("%d bytes are not %d short of a segment", len(text), short)
			}
			d := withSegment(t, impl.MaxSectors, seg, text)
			segHas(t, "to the end", d, seg, 2, []impl.Frame{one, two}, len(text))
		}
	}
}

// A frame that begins in a segment and ends in the next one is in neither.
func TestSegFramesAcrossTheEndOfASegment(t *testing.T) {
	one := impl.Frame{Gen: 2, Seq: 3, Body: bodyOf(150)}
	ahead := framesAsSaid([]impl.Frame{segMark(2), one})
	across := impl.Frame{Gen: 2, Seq: 4, Body: bodyOf(100)}
	for _, seg := range []int{0, 3} {
		d := withSegment(t, 48, seg, ahead+frameAsSaid(across))
		segHas(t, "across the end", d, seg, 2, []impl.Frame{one}, len(ahead))
		segHas(t, "behind the end", d, seg+1, 0, nil, 0)
	}
	for beyond := 1; beyond <= 5; beyond++ {
		last := impl.Frame{Gen: 2, Seq: 4, Body: bodyOf(impl.SegSize - len(ahead) - 7 + beyond)}
		d := withSegment(t, 48, 1, ahead+frameAsSaid(last))
		segHas(t, "some bytes across the end", d, 1, 2, []impl.Frame{one}, len(ahead))
		refusesSegWrite(t, "some bytes across the end", d, 1, len(ahead), frameAsSaid(last))
	}
}

func TestSegFramesOfWhatIsTorn(t *testing.T) {
	list := []impl.Frame{{Gen: 5, Seq: 9, Body: "first"}, {Gen: 5, Seq: 8, Body: bodyOf(90)}}
	text := framesAsSaid(append([]impl.Frame{segMark(5)}, list...))
	mark := len(frameAsSaid(segMark(5)))
	for n := range len(text) {
		if text[n] == 0xff {
			continue
		}
		d := withSegment(t, 48, 3, text[:n]+strings.Repeat("\xff", len(text)-n))
		if n < mark {
			segHas(t, "torn in the first one", d, 3, 0, nil, 0)
			continue
		}
		whole, end := wholeOf(append([]impl.Frame{segMark(5)}, list...), n)
		segHas(t, "torn", d, 3, 5, whole[1:], end)
	}
}

// Sectors of another length move what stands behind them.
func TestSegFramesOfADiskThatIsNotRight(t *testing.T) {
	list := []impl.Frame{{Gen: 5, Seq: 9, Body: "first"}, {Gen: 5, Seq: 8, Body: bodyOf(90)}}
	text := framesAsSaid(append([]impl.Frame{segMark(5)}, list...))
	d := unlikeDisk(sectorsOf(5))
	d.Sectors[8], d.Sectors[9], d.Sectors[10] = "", text[:3], text[3:]
	segHas(t, "sectors of any length", d, 0, 5, list, len(text))
	d.Cache = []impl.Write{{At: 9, Text: text[:2]}}
	segHas(t, "a write that is too short", d, 0, 0, nil, 0)
	many := unlikeDisk(sectorsOf(impl.MaxSegs + 1))
	many.Sectors[sectorsOf(impl.MaxSegs)] = text
	segHas(t, "one segment too many", many, impl.MaxSegs, 0, nil, 0)
}

func TestNoSegmentSharesMemory(t *testing.T) {
	disks := rightDisks()
	for _, more := range []map[string]impl.Disk{wrongDisks(), wrongSegmentDisks()} {
		for name, d := range more {
			disks[name] = d
		}
	}
	for name, plain := range disks {
		d := withRoom(plain)
		before := ofDisk(fully(d))
		text, buffer := roomy(counted(40))
		for _, c := range []struct{ seg, at int }{{0, 0}, {1, 9}, {10, 224}, {10, 225}, {-1, 0}, {11, 0}, {0, -1}, {0, 257}, {5, 256}} {
			got, ok := impl.SegWrite(d, c.seg, c.at, text)
			again, _ := impl.SegWrite(d, c.seg, c.at, text)
			empty, _ := impl.SegWrite(d, c.seg, c.at, "")
			for _, answer := range []impl.Disk{got, again, empty} {
				sharesNoText(t, name, answer, append(textsOfDisk(d), text))
			}
			wasSame := sameDisk(got, again)
			scribble(got)
			scribble(empty)
			if !wasSame || len(got.Sectors) > 0 && sameDisk(got, again) {
				t.Errorf("%s: two answers at %d of segment %d are unlike, or share memory", name, c.at, c.seg)
			}
			if !sameDisk(fully(d), before) || string(buffer) != counted(40)+"room behind it" {
				t.Fatalf("%s: SegWrite at %d of segment %d (%v) writes into its argument, or shares it", name, c.at, c.seg, ok)
			}
		}
	}
}

func TestNothingReadOfASegmentSharesMemory(t *testing.T) {
	list := someFrames(2, 4)
	text := framesAsSaid(append([]impl.Frame{segMark(2)}, list...))
	for _, plain := range []impl.Disk{withSegment(t, 48, 1, text), impl.FlushDisk(withSegment(t, 48, 1, text))} {
		d := withRoom(plain)
		before := ofDisk(fully(d))
		first, _ := impl.SegFrames(d, 1)
		second, _ := impl.SegFrames(d, 1)
		read := []string{impl.SegText(d, 1), impl.SegText(d, 1)}
		for _, f := range slices.Concat(first, second) {
			read = append(read, f.Body)
		}
		for i, a := range read {
			for _, b := range append(textsOfDisk(d), read[:i]...) {
				if overlap(a, b) {
					t.Fatal("what is read of a segment shares memory")
				}
			}
		}
		for i := range first[:cap(first)] {
			first[:cap(first)][i] = impl.Frame{Gen: 77, Body: "scribble"}
		}
		if !slices.Equal(second, list) || impl.SegGen(d, 1) != 2 || impl.SegText(d, 1) != segTextAsSaid(d, 1) {
			t.Error("two lists of SegFrames share memory")
		}
		if !sameDisk(fully(d), before) {
			t.Error("reading a segment writes on its disk")
		}
	}
}
