package tests

import (
	"cmp"
	"fmt"
	"math"
	"slices"
	"testing"
	"unsafe"

	"loop.example/g00287/impl"
)

// numbersOutside are no NextGen, NextSeq, NextValid or Stamp.
var numbersOutside = wrongFrameNumbers

func itemAsSaid(x impl.Item, gen int) string {
	return frameAsSaid(impl.Frame{Gen: gen, Seq: x.Seq, Body: recAsSaid(x.Rec)})
}

// segAsSaid is all that a segment of this Gen has on the disk.
func segAsSaid(gen int, items []impl.Item) string {
	text := frameAsSaid(segMark(gen))
	for _, x := range items {
		text += itemAsSaid(x, gen)
	}
	return text
}

// putAsSaid has this text in a segment, in its sectors, and all else as it was.
func putAsSaid(d impl.Disk, seg, at int, text string) impl.Disk {
	return putFrom(d, (8+8*seg)*impl.SectorSize+at, text)
}

// putFrom has this text from so many bytes of the disk on.
func putFrom(d impl.Disk, from int, text string) impl.Disk {
	whole := readWhole(d)
	whole = whole[:from] + text + whole[from+len(text):]
	out := impl.Disk{}
	for i := range d.Sectors {
		out.Sectors = append(out.Sectors, whole[i*impl.SectorSize:(i+1)*impl.SectorSize])
	}
	return out
}

func segOf(no, gen int, items ...impl.Item) impl.Seg {
	return impl.Seg{No: no, Gen: gen, End: len(segAsSaid(gen, items)), Items: items}
}

// itemsIn is all items of these, in order.
func itemsIn(used []impl.Seg) []impl.Item {
	out := []impl.Item{}
	for _, s := range used {
		out = append(out, s.Items...)
	}
	return out
}

// logOn has these segments on a disk, on which they are written, and numbers
// that are no greater than they must be.
func logOn(d impl.Disk, used ...impl.Seg) impl.Log {
	g := impl.Log{Disk: d, Segs: (len(d.Sectors) - 8) / 8, Used: used, NextGen: 1, Stamp: 1}
	for _, s := range used {
		g.Disk = putAsSaid(g.Disk, s.No, 0, segAsSaid(s.Gen, s.Items))
		g.NextGen = max(g.NextGen, s.Gen+1)
	}
	g.NextSeq = 1 + greatest(itemsIn(used), func(x impl.Item) int { return x.Seq })
	g.NextValid = 1 + greatest(itemsIn(used), validOfItem)
	return g
}

func logWith(segs int, used ...impl.Seg) impl.Log {
	return logOn(unlikeDisk(sectorsOf(segs)), used...)
}

// newLog has one segment without items, and noughts on the rest of its disk.
func newLog(segs int) impl.Log {
	d, _ := impl.DiskNew(sectorsOf(segs))
	return logOn(d, segOf(0, 1))
}

// severalLog has three segments in use, out of order on the disk, and numbers
// that are greater than they must be.
func severalLog() impl.Log {
	g := logWith(7,
		segOf(4, 3, boxItem(1, 1, 1, "ann", "inbox"), addItem(2, 1, 1, 0, "hello\n"), boxItem(3, 5, 1, "bob", "old")),
		segOf(0, 5),
		segOf(6, 9, flagItem(30, 1, 1, 2), addItem(4, 5, 1, 7, "to bob"), goneItem(31, 1, 1)))
	g.NextGen, g.NextSeq, g.NextValid, g.Stamp = 12, 40, 8, 2
	return g
}

func copyOfLog(g impl.Log) impl.Log {
	g.Disk, g.Used = ofDisk(g.Disk), slices.Clone(g.Used)
	for i := range g.Used {
		g.Used[i].Items = slices.Clone(g.Used[i].Items)
	}
	return g
}

func sameSeg(a, b impl.Seg) bool {
	return a.No == b.No && a.Gen == b.Gen && a.End == b.End && slices.Equal(a.Items, b.Items)
}

// alikeLogs holds every field of two logs against each other.
func alikeLogs(a, b impl.Log) bool {
	return sameDisk(a.Disk, b.Disk) && a.Segs == b.Segs && slices.EqualFunc(a.Used, b.Used, sameSeg) &&
		a.NextGen == b.NextGen && a.NextSeq == b.NextSeq && a.Stamp == b.Stamp && a.NextValid == b.NextValid
}

// tellLog is a log in short.
func tellLog(g impl.Log) string {
	return fmt.Sprintf("%d sectors, %d writes, Segs %d, Used %+v, NextGen %d, NextSeq %d, Stamp %d, NextValid %d",
		len(g.Disk.Sectors), len(g.Disk.Cache), g.Segs, g.Used, g.NextGen, g.NextSeq, g.Stamp, g.NextValid)
}

// onDiskAsSaid tells whether the segment is on the disk as s has it.
func onDiskAsSaid(d impl.Disk, s impl.Seg) bool {
	frames, end := impl.SegFrames(d, s.No)
	if impl.SegGen(d, s.No) != s.Gen || end != s.End || len(frames) != len(s.Items) {
		return false
	}
	for i, f := range frames {
		if x := s.Items[i]; f != (impl.Frame{Gen: s.Gen, Seq: x.Seq, Body: recAsSaid(x.Rec)}) {
			return false
		}
	}
	return true
}

// logRightAsSaid is the document's own words.
func logRightAsSaid(g impl.Log) bool {
	segs := (len(g.Disk.Sectors) - 8) / 8
	if !impl.DiskOk(g.Disk) || len(g.Disk.Cache) > 0 || segs < 5 || segs > 11 || g.Segs != segs {
		return false
	}
	for _, n := range []int{g.NextGen, g.NextSeq, g.NextValid, g.Stamp} {
		if n < 1 || n > 1000000000 {
			return false
		}
	}
	if len(g.Used) < 1 || len(g.Used) > g.Segs || !itemsRightAsSaid(itemsIn(g.Used)) {
		return false
	}
	for i, s := range g.Used {
		for _, other := range g.Used[:i] {
			if other.Gen >= s.Gen || other.No == s.No {
				return false
			}
		}
		if s.No < 0 || s.No >= g.Segs || s.Gen < 1 || s.Gen >= g.NextGen || !onDiskAsSaid(g.Disk, s) {
			return false
		}
		for _, x := range s.Items {
			if x.Seq >= g.NextSeq || x.Rec.Valid >= g.NextValid {
				return false
			}
		}
	}
	return true
}

func freeAsSaid(g impl.Log) []int {
	out := []int{}
	for no := range g.Segs {
		if !slices.ContainsFunc(g.Used, func(s impl.Seg) bool { return s.No == no }) {
			out = append(out, no)
		}
	}
	return out
}

// openAsSaid is the document's own words, of a log that is right.
func openAsSaid(g impl.Log, keep int) (impl.Log, bool) {
	free := freeAsSaid(g)
	if keep < 0 || g.NextGen == 1000000000 || len(free) <= keep {
		return g, false
	}
	text := frameAsSaid(segMark(g.NextGen))
	out := copyOfLog(g)
	out.Disk = putAsSaid(g.Disk, free[0], 0, text)
	out.Used = append(out.Used, impl.Seg{No: free[0], Gen: g.NextGen, End: len(text)})
	out.NextGen = g.NextGen + 1
	return out, true
}

// appendAsSaid is the document's own words, of a log that is right.
func appendAsSaid(g impl.Log, x impl.Item, keep int) (impl.Log, bool) {
	if keep < 0 || x.Seq == 1000000000 || !itemsRightAsSaid(append(itemsIn(g.Used), x)) {
		return g, false
	}
	out := copyOfLog(g)
	if head := g.Used[len(g.Used)-1]; head.End+len(itemAsSaid(x, head.Gen)) > 256 {
		opened, ok := openAsSaid(g, keep)
		if !ok {
			return g, false
		}
		out = opened
	}
	head := &out.Used[len(out.Used)-1]
	text := itemAsSaid(x, head.Gen)
	out.Disk = putAsSaid(out.Disk, head.No, head.End, text)
	head.End += len(text)
	head.Items = append(head.Items, x)
	if out.NextSeq <= x.Seq {
		out.NextSeq = x.Seq + 1
	}
	if out.NextValid <= x.Rec.Valid {
		out.NextValid = x.Rec.Valid + 1
	}
	return out, true
}

// answersLog asks for every field of an answer, and that the log that was
// handed in is as it was.
func answersLog(t *testing.T, what string, got impl.Log, ok bool, want impl.Log, right bool, given, before impl.Log) {
	t.Helper()
	if ok != right || !alikeLogs(got, want) {
		t.Errorf("%s: %v, %s; not %v, %s", what, ok, tellLog(got), right, tellLog(want))
	}
	if !alikeLogs(given, before) {
		t.Errorf("%s: the log handed in is written on", what)
	}
	if is := impl.LogOk(got); is != logRightAsSaid(got) {
		t.Errorf("%s: LogOk of what is answered is %v: %s", what, is, tellLog(got))
	}
}

// opens and the two below ask for the answer as the document says it.
func opens(t *testing.T, what string, g impl.Log, keep int) (impl.Log, bool) {
	t.Helper()
	before := copyOfLog(g)
	want, right := openAsSaid(g, keep)
	got, ok := impl.OpenSeg(g, keep)
	answersLog(t, fmt.Sprintf("%s: OpenSeg, keep %d", what, keep), got, ok, want, right, g, before)
	return got, ok
}

func appends(t *testing.T, what string, g impl.Log, x impl.Item, keep int) (impl.Log, bool) {
	t.Helper()
	before := copyOfLog(g)
	want, right := appendAsSaid(g, x, keep)
	got, ok := impl.AppendItem(g, x, keep)
	answersLog(t, fmt.Sprintf("%s: AppendItem of %+v, keep %d", what, x, keep), got, ok, want, right, g, before)
	if ok {
		isReadFromTheDisk(t, what, g, got, x)
	}
	return got, ok
}

func appendsRec(t *testing.T, what string, g impl.Log, r impl.Rec, keep int) (impl.Log, bool) {
	t.Helper()
	before := copyOfLog(g)
	want, right := appendAsSaid(g, impl.Item{Seq: g.NextSeq, Rec: r}, keep)
	got, ok := impl.AppendRec(g, r, keep)
	answersLog(t, fmt.Sprintf("%s: AppendRec of %+v, keep %d", what, r, keep), got, ok, want, right, g, before)
	return got, ok
}

// isReadFromTheDisk is promise 9: of what was appended to a log, and of all
// that was there before.
func isReadFromTheDisk(t *testing.T, what string, before, after impl.Log, x impl.Item) {
	t.Helper()
	if len(after.Disk.Cache) > 0 {
		t.Errorf("%s: %d writes are not flushed", what, len(after.Disk.Cache))
	}
	read := []impl.Item{}
	for _, s := range after.Used {
		frames, _ := impl.SegFrames(after.Disk, s.No)
		for _, f := range frames[:min(len(frames), len(s.Items))] {
			y, _ := impl.FrameItem(f)
			read = append(read, y)
		}
	}
	if want := append(itemsIn(before.Used), x); !slices.Equal(read, want) {
		t.Errorf("%s: from the disk are read %+v, not %+v", what, read, want)
	}
	if got := impl.ItemsOf(after); !slices.Equal(got, read) {
		t.Errorf("%s: ItemsOf is %+v, not %+v", what, got, read)
	}
}

// isRight and refusesLog ask for LogOk; what is not right is appended to by
// none.
func isRight(t *testing.T, what string, g impl.Log) {
	t.Helper()
	if !impl.LogOk(g) || !logRightAsSaid(g) {
		t.Errorf("%s: not right: %s", what, tellLog(g))
	}
}

func refusesLog(t *testing.T, what string, g impl.Log) {
	t.Helper()
	if impl.LogOk(g) || logRightAsSaid(g) {
		t.Errorf("%s: right: %s", what, tellLog(g))
		return
	}
	before := copyOfLog(g)
	for _, keep := range []int{0, 1, -1, math.MaxInt, math.MinInt} {
		got, ok := impl.OpenSeg(g, keep)
		answersLog(t, what+": OpenSeg", got, ok, before, false, g, before)
		got, ok = impl.AppendItem(g, dropItem(20, 1), keep)
		answersLog(t, what+": AppendItem", got, ok, before, false, g, before)
		got, ok = impl.AppendItem(g, impl.Item{}, keep)
		answersLog(t, what+": AppendItem of nothing", got, ok, before, false, g, before)
		got, ok = impl.AppendRec(g, dropItem(0, 1).Rec, keep)
		answersLog(t, what+": AppendRec", got, ok, before, false, g, before)
	}
	if got := impl.ItemsOf(g); !slices.Equal(got, itemsIn(g.Used)) {
		t.Errorf("%s: ItemsOf is %+v", what, got)
	}
}

// rightLogs has every limit met exactly.
func rightLogs() map[string]impl.Log {
	logs := map[string]impl.Log{
		"several segments":                          severalLog(),
		"one segment without items":                 newLog(impl.MinSegs),
		"one segment that is not the first":         logWith(5, segOf(4, 7)),
		"one segment with items":                    logWith(5, segOf(2, 1, plainItems()...)),
		"numbers as small as may be":                logWith(6, segOf(3, 1, dropItem(1, 1))),
		"a Gen of MaxNumber less 1":                 logWith(5, segOf(1, impl.MaxNumber-1)),
		"a Seq of MaxNumber less 1":                 logWith(5, segOf(1, 4, dropItem(impl.MaxNumber-1, 3))),
		"a Valid of MaxValid":                       logWith(5, segOf(1, 4, dropItem(8, impl.MaxValid))),
		"the same item again":                       logWith(5, segOf(1, 4, dropItem(8, 3), dropItem(8, 3))),
		"the same item in another segment":          logWith(5, segOf(1, 4, dropItem(8, 3)), segOf(0, 5, goneItem(9, 3, 1), dropItem(8, 3))),
		"Seqs in no order":                          logWith(5, segOf(1, 4, dropItem(8, 3), dropItem(2, 3), dropItem(5, 3))),
		"most sectors":                              logOn(unlikeDisk(impl.MaxSectors), segOf(10, 2, dropItem(8, 3))),
		"sectors that are no whole segment":         logOn(unlikeDisk(sectorsOf(5)+7), segOf(4, 2, dropItem(8, 3))),
		"as much as fits":                           fullestLog(impl.MaxSegs),
		"records of each Kind, and as great as may": greatLog(),
	}
	for segs := impl.MinSegs; segs <= impl.MaxSegs; segs++ {
		used := []impl.Seg{}
		for i := range segs {
			used = append(used, segOf((2*segs+1-i)%segs, 10+3*i, dropItem(50-i, 1+i)))
			logs[fmt.Sprintf("%d of %d segments", i+1, segs)] = logWith(segs, slices.Clone(used)...)
		}
	}
	for _, n := range []int{900, impl.MaxNumber - 1, impl.MaxNumber} {
		g := severalLog()
		g.NextGen, g.NextSeq, g.NextValid, g.Stamp = n, n, n, n
		logs[fmt.Sprint("numbers of ", n)] = g
	}
	old := logWith(5, segOf(3, 2, dropItem(7, 1)), segOf(1, 8, plainItems()...), segOf(0, 30, dropItem(7, 2)))
	old.Used = []impl.Seg{old.Used[1]}
	old.NextGen = 9
	logs["segments of other Gens that are not in use"] = old
	return logs
}

// fullestLog has all segments in use, with as many items as can lie in them.
func fullestLog(segs int) impl.Log {
	used := []impl.Seg{}
	for i := range segs {
		s := segOf(segs-1-i, i+1)
		for k := range 16 {
			s.Items = append(s.Items, dropItem(1+(i*16+k)%120, 1+(i*16+k)%120))
		}
		used = append(used, segOf(s.No, s.Gen, s.Items...))
	}
	return logWith(segs, used...)
}

// greatLog has records of each Kind, at their least and their greatest.
func greatLog() impl.Log {
	used, seq := []impl.Seg{}, 100
	for i, list := range [][]impl.Rec{leastRecs(), plainRecs(), greatestRecs()} {
		items := []impl.Item{}
		for _, r := range list {
			items, seq = append(items, impl.Item{Seq: seq, Rec: r}), seq+1
		}
		used = append(used, segOf(i, impl.MaxNumber-9+i, items...))
	}
	return logWith(9, used...)
}

func TestLogOkOfRightLogs(t *testing.T) {
	for what, g := range rightLogs() {
		isRight(t, what, g)
	}
	if n := len(itemsIn(fullestLog(impl.MaxSegs).Used)); n != 176 {
		t.Errorf("the fullest log has %d items", n)
	}
}

// turned is severalLog with one thing made another one.
func turned(turn func(g *impl.Log)) impl.Log {
	g := severalLog()
	turn(&g)
	return g
}

func wrongDiskLogs() map[string]impl.Log {
	sector := func(at int, text string) impl.Log {
		return turned(func(g *impl.Log) { g.Disk.Sectors[at] = text })
	}
	cache := func(list ...impl.Write) impl.Log {
		return turned(func(g *impl.Log) { g.Disk.Cache = list })
	}
	several := severalLog()
	logs := map[string]impl.Log{
		"no disk":                             turned(func(g *impl.Log) { g.Disk = impl.Disk{} }),
		"another disk":                        turned(func(g *impl.Log) { g.Disk = unlikeDisk(sectorsOf(7)) }),
		"an empty disk":                       turned(func(g *impl.Log) { g.Disk, _ = impl.DiskNew(sectorsOf(7)) }),
		"a first sector too short":            sector(0, filled('s')[1:]),
		"a sector too long, not in use":       sector(9, filled('s')+"s"),
		"a last sector that is empty":         sector(len(several.Disk.Sectors)-1, ""),
		"a write that waits":                  cache(impl.Write{At: 3, Text: filled('w')}),
		"a write that turns nothing":          cache(impl.Write{At: 40, Text: several.Disk.Sectors[40]}),
		"a write that is not right":           cache(impl.Write{At: 3, Text: "w"}),
		"a full Cache":                        cache(cacheOf(impl.MaxCache, 7)...),
		"sectors of a segment less":           turned(func(g *impl.Log) { g.Disk.Sectors = g.Disk.Sectors[:sectorsOf(6)] }),
		"a sector less":                       turned(func(g *impl.Log) { g.Disk.Sectors = g.Disk.Sectors[:sectorsOf(7)-1] }),
		"sectors of a segment more":           turned(func(g *impl.Log) { g.Disk.Sectors = append(g.Disk.Sectors, unlikeDisk(8).Sectors...) }),
		"one sector more than MaxSectors":     logOn(unlikeDisk(impl.MaxSectors+1), segOf(0, 1)),
		"a frame on the disk more":            turned(func(g *impl.Log) { g.Disk = putAsSaid(g.Disk, 0, g.Used[1].End, itemAsSaid(dropItem(9, 3), 5)) }),
		"a frame on the disk that is no item": turned(func(g *impl.Log) { g.Disk = putAsSaid(g.Disk, 0, g.Used[1].End, frameAsSaid(segMark(5))) }),
		"a byte of the last frame turned":     turned(func(g *impl.Log) { g.Disk = putAsSaid(g.Disk, 6, g.Used[2].End-1, "\x00") }),
		"a byte of the first frame turned":    turned(func(g *impl.Log) { g.Disk = putAsSaid(g.Disk, 0, 0, "\x06") }),
		"a first frame of another Gen":        turned(func(g *impl.Log) { g.Disk = putAsSaid(g.Disk, 0, 0, frameAsSaid(segMark(6))) }),
		"a first frame that is not of the log": turned(func(g *impl.Log) {
			g.Disk = putAsSaid(g.Disk, 0, 0, frameAsSaid(impl.Frame{Gen: 5, Seq: 1, Body: "ges"}))
		}),
	}
	for segs := 1; segs < impl.MinSegs; segs++ {
		for _, told := range []int{0, segs} {
			g := logOn(unlikeDisk(sectorsOf(segs)), segOf(0, 1))
			g.Segs = told
			logs[fmt.Sprintf("a disk of %d segments, told as %d", segs, told)] = g
			g.Used = nil
			logs[fmt.Sprintf("a disk of %d segments, told as %d, none Used", segs, told)] = g
		}
	}
	return logs
}

func wrongNumberLogs() map[string]impl.Log {
	logs := map[string]impl.Log{}
	fields := map[string]func(g *impl.Log) *int{
		"NextGen": func(g *impl.Log) *int { return &g.NextGen }, "NextSeq": func(g *impl.Log) *int { return &g.NextSeq },
		"NextValid": func(g *impl.Log) *int { return &g.NextValid }, "Stamp": func(g *impl.Log) *int { return &g.Stamp },
	}
	below := map[string][]int{"NextGen": {1, 3, 5, 8, 9}, "NextSeq": {1, 4, 30, 31}, "NextValid": {1, 2, 4, 5}}
	for name, field := range fields {
		for _, n := range append(below[name], numbersOutside...) {
			logs[fmt.Sprint(name, " of ", n)] = turned(func(g *impl.Log) { *field(g) = n })
		}
		for _, n := range numbersOutside {
			g := newLog(5)
			*field(&g) = n
			logs[fmt.Sprint(name, " of ", n, " without items")] = g
		}
	}
	for _, n := range []int{0, 1, 5, 6, 8, 11, 12, -7, 7 + 256, 7 + 1<<32, math.MaxInt, math.MinInt} {
		logs[fmt.Sprint("Segs of ", n)] = turned(func(g *impl.Log) { g.Segs = n })
	}
	g := logWith(5, segOf(0, impl.MaxNumber))
	logs["a Gen of MaxNumber"] = g
	g.NextGen = impl.MaxNumber
	logs["a Gen of MaxNumber, and NextGen, too"] = g
	g = logWith(5, segOf(0, 3, dropItem(impl.MaxNumber, 2)))
	logs["a Seq of MaxNumber"] = g
	g.NextSeq = impl.MaxNumber
	logs["a Seq of MaxNumber, and NextSeq, too"] = g
	return logs
}

// wrongUsedLogs have Used that is not right, one thing alone.
func wrongUsedLogs() map[string]impl.Log {
	logs := map[string]impl.Log{
		"nothing":                          {},
		"no Used":                          turned(func(g *impl.Log) { g.Used = nil }),
		"a Used of nothing":                turned(func(g *impl.Log) { g.Used = []impl.Seg{{}} }),
		"two that changed their places":    turned(func(g *impl.Log) { g.Used[0], g.Used[1] = g.Used[1], g.Used[0] }),
		"from the last one on":             turned(func(g *impl.Log) { slices.Reverse(g.Used) }),
		"one twice":                        turned(func(g *impl.Log) { g.Used = append(g.Used, g.Used[2]) }),
		"one twice, ahead":                 turned(func(g *impl.Log) { g.Used = append(g.Used[:1:1], g.Used...) }),
		"a No that another one has":        turned(func(g *impl.Log) { g.Used[1].No = 4 }),
		"a No that is not in use":          turned(func(g *impl.Log) { g.Used[1].No = 1 }),
		"one that is not in use, ahead":    turned(func(g *impl.Log) { g.Used = slices.Insert(g.Used, 0, impl.Seg{No: 1}) }),
		"one that is not in use, behind":   turned(func(g *impl.Log) { g.Used = append(g.Used, impl.Seg{No: 1}) }),
		"one that is not in use, of a Gen": turned(func(g *impl.Log) { g.Used = append(g.Used, impl.Seg{No: 1, Gen: 10}) }),
		"one alone that is not in use":     turned(func(g *impl.Log) { g.Used = []impl.Seg{{No: 1}} }),
		"two of one Gen on the disk":       logWith(6, segOf(1, 4), segOf(2, 4)),
		"Gens that go down on the disk":    logWith(6, segOf(1, 4), segOf(2, 3)),
		"more Used than Segs": turned(func(g *impl.Log) {
			for i := range 5 {
				g.Used = append(g.Used, impl.Seg{No: i, Gen: 20 + i})
			}
			g.NextGen = 40
		}),
	}
	for _, no := range []int{-1, 7, 8, 10, 11, 256, -256, 1 << 61, math.MaxInt, math.MinInt} {
		for at := range 3 {
			logs[fmt.Sprint("a No of ", no, " at ", at)] = turned(func(g *impl.Log) { g.Used[at].No = no })
		}
	}
	for at := range 3 {
		for _, more := range []int{-1, 1, 2, 1 << 32} {
			logs[fmt.Sprint("a Gen that is ", more, " more, at ", at)] = turned(func(g *impl.Log) { g.Used[at].Gen += more })
			logs[fmt.Sprint("an End that is ", more, " more, at ", at)] = turned(func(g *impl.Log) { g.Used[at].End += more })
		}
		for _, n := range []int{0, -1, impl.SegSize, math.MaxInt, math.MinInt} {
			logs[fmt.Sprint("a Gen of ", n, " at ", at)] = turned(func(g *impl.Log) { g.Used[at].Gen = n })
			logs[fmt.Sprint("an End of ", n, " at ", at)] = turned(func(g *impl.Log) { g.Used[at].End = n })
		}
		logs[fmt.Sprint("an item more, at ", at)] = turned(func(g *impl.Log) { g.Used[at].Items = append(g.Used[at].Items, dropItem(9, 3)) })
		logs[fmt.Sprint("an item of nothing more, at ", at)] = turned(func(g *impl.Log) { g.Used[at].Items = append(g.Used[at].Items, impl.Item{}) })
	}
	return logs
}

// wrongItemLogs have items that are not as they are on the disk, or that do
// not go together.
func wrongItemLogs() map[string]impl.Log {
	logs := map[string]impl.Log{}
	for _, at := range []int{0, 2} {
		logs[fmt.Sprint("no items at ", at)] = turned(func(g *impl.Log) { g.Used[at].Items = nil })
		logs[fmt.Sprint("the first item less at ", at)] = turned(func(g *impl.Log) { g.Used[at].Items = g.Used[at].Items[1:] })
		logs[fmt.Sprint("the last item less at ", at)] = turned(func(g *impl.Log) { g.Used[at].Items = g.Used[at].Items[:2] })
		logs[fmt.Sprint("items in another order at ", at)] = turned(func(g *impl.Log) { slices.Reverse(g.Used[at].Items) })
		for k := range 3 {
			for what, turn := range map[string]func(x *impl.Item){
				"Seq": func(x *impl.Item) { x.Seq = 37 }, "Kind": func(x *impl.Item) { x.Rec.Kind = 2 },
				"Valid": func(x *impl.Item) { x.Rec.Valid++ }, "Uid": func(x *impl.Item) { x.Rec.Uid++ },
				"Next": func(x *impl.Item) { x.Rec.Next++ }, "Flags": func(x *impl.Item) { x.Rec.Flags ^= 1 },
				"User": func(x *impl.Item) { x.Rec.User += "a" }, "Name": func(x *impl.Item) { x.Rec.Name += "a" },
				"Text": func(x *impl.Item) { x.Rec.Text += "a" },
			} {
				logs[fmt.Sprint("another ", what, " of item ", k, " at ", at)] = turned(func(g *impl.Log) { turn(&g.Used[at].Items[k]) })
			}
		}
	}
	logs["items that lie in another segment"] = turned(func(g *impl.Log) { g.Used[0].Items, g.Used[2].Items = g.Used[2].Items, g.Used[0].Items })
	logs["all items in one segment"] = turned(func(g *impl.Log) {
		g.Used[2].Items, g.Used[0].Items = itemsIn(g.Used), nil
	})
	logs["201 items"] = turned(func(g *impl.Log) { g.Used[2].Items = slices.Repeat(g.Used[2].Items[:1], 201) })
	logs["two of one Seq, in one segment"] = logWith(5, segOf(0, 2, dropItem(8, 3), dropItem(8, 4)))
	logs["two of one Seq, in two segments"] = logWith(5, segOf(0, 2, dropItem(8, 3)), segOf(1, 4, plainItems()...), segOf(2, 5, goneItem(8, 3, 1)))
	return withFramesThatAreNoItems(logs)
}

// withFramesThatAreNoItems has logs whose disk has frames without an item:
// they are not right, whatever Items tell of these.
func withFramesThatAreNoItems(logs map[string]impl.Log) map[string]impl.Log {
	for what, body := range map[string]string{"seg": "seg", "any": "hi", "a wrong record": recAsSaid(impl.Rec{Kind: 6, Valid: 1}), "a record and more": recAsSaid(dropItem(0, 1).Rec) + "\x00"} {
		text := frameAsSaid(impl.Frame{Gen: 5, Seq: 3, Body: body})
		for told, items := range map[string][]impl.Item{"left out": nil, "as nothing": {{}}, "with its Seq": {{Seq: 3}}, "as another one": {dropItem(3, 1)}} {
			for _, more := range []int{0, len(text)} {
				logs[fmt.Sprint("a frame with the Body ", what, " ", told, ", End ", more)] = turned(func(g *impl.Log) {
					g.Disk = putAsSaid(g.Disk, 0, g.Used[1].End, text)
					g.Used[1].Items = items
					g.Used[1].End += more
				})
			}
		}
	}
	return logs
}

func wrongLogs() map[string]impl.Log {
	all := map[string]impl.Log{}
	for _, logs := range []map[string]impl.Log{wrongDiskLogs(), wrongNumberLogs(), wrongUsedLogs(), wrongItemLogs()} {
		for what, g := range logs {
			all[what] = g
		}
	}
	return all
}

func TestLogOkRefuses(t *testing.T) {
	for what, g := range wrongLogs() {
		refusesLog(t, what, g)
	}
}

func TestFreeSegs(t *testing.T) {
	for what, c := range map[string]struct {
		log  impl.Log
		want []int
	}{
		"one in use":              {newLog(5), []int{1, 2, 3, 4}},
		"the last one in use":     {logWith(5, segOf(4, 7)), []int{0, 1, 2, 3}},
		"several":                 {severalLog(), []int{1, 2, 3, 5}},
		"all in use":              {fullestLog(impl.MaxSegs), nil},
		"most segments":           {newLog(impl.MaxSegs), []int{1, 2, 3, 4, 5, 6, 7, 8, 9, 10}},
		"nothing":                 {impl.Log{}, nil},
		"none in use":             {impl.Log{Segs: 3}, []int{0, 1, 2}},
		"Nos that are none":       {impl.Log{Segs: 4, Used: []impl.Seg{{No: 4}, {No: -1}, {No: math.MaxInt}, {No: 2}}}, []int{0, 1, 3}},
		"a No twice":              {impl.Log{Segs: 4, Used: []impl.Seg{{No: 3}, {No: 0}, {No: 3}}}, []int{1, 2}},
		"Segs below 0":            {impl.Log{Segs: -1}, nil},
		"Segs far below 0":        {impl.Log{Segs: math.MinInt, Used: []impl.Seg{{No: 1}}}, nil},
		"as many as there may be": {impl.Log{Segs: impl.MaxSegs, Used: []impl.Seg{{No: 9}}}, []int{0, 1, 2, 3, 4, 5, 6, 7, 8, 10}},
		// There are no more than MaxSegs of them.
		"Segs above MaxSegs":     {impl.Log{Segs: impl.MaxSegs + 1, Used: []impl.Seg{{No: 9}, {No: 11}}}, []int{0, 1, 2, 3, 4, 5, 6, 7, 8, 10}},
		"Segs far above MaxSegs": {impl.Log{Segs: math.MaxInt}, []int{0, 1, 2, 3, 4, 5, 6, 7, 8, 9, 10}},
	} {
		if got := impl.FreeSegs(c.log); !slices.Equal(got, c.want) {
			t.Errorf("%s: FreeSegs is %v, not %v", what, got, c.want)
		}
	}
	for what, g := range rightLogs() {
		if got, want := impl.FreeSegs(g), freeAsSaid(g); !slices.Equal(got, want) {
			t.Errorf("%s: FreeSegs is %v, not %v", what, got, want)
		}
	}
}

func TestOpenSegOfAKnownLog(t *testing.T) {
	g := severalLog()
	got, ok := impl.OpenSeg(g, 3)
	if !ok || len(got.Used) != 4 || !sameSeg(got.Used[3], impl.Seg{No: 1, Gen: 12, End: 10}) {
		t.Fatalf("%v, %s", ok, tellLog(got))
	}
	if got.NextGen != 13 || got.NextSeq != 40 || got.NextValid != 8 || got.Stamp != 2 || got.Segs != 7 {
		t.Errorf("numbers: %s", tellLog(got))
	}
	segHas(t, "the new head", got.Disk, 1, 12, nil, 10)
	if text := impl.SegText(got.Disk, 1); text[:10] != frameAsSaid(segMark(12)) || text[10:] != impl.SegText(g.Disk, 1)[10:] {
		t.Error("the segment has something else than its first frame, and what it had")
	}
	if !slices.EqualFunc(got.Used[:3], g.Used, sameSeg) || !slices.Equal(impl.FreeSegs(got), []int{2, 3, 5}) || !impl.LogOk(got) {
		t.Errorf("the others are not as they were: %s", tellLog(got))
	}
}

func TestOpenSegOfRightLogs(t *testing.T) {
	for what, g := range rightLogs() {
		free := len(freeAsSaid(g))
		for _, keep := range []int{0, 1, 2, free - 2, free - 1, free, free + 1, impl.MaxSegs, impl.MaxNumber, math.MaxInt, -1, -2, math.MinInt} {
			got, ok := opens(t, what, g, keep)
			if want := keep >= 0 && keep < free && g.NextGen != impl.MaxNumber; ok != want {
				t.Errorf("%s: with %d free OpenSeg, keep %d, is %v", what, free, keep, ok)
			}
			if !ok {
				continue
			}
			isRight(t, what, got)
			head := got.Used[len(got.Used)-1]
			segHas(t, what, got.Disk, head.No, g.NextGen, nil, head.End)
		}
	}
}

func TestOpenSegUntilNoneIsFree(t *testing.T) {
	for segs := impl.MinSegs; segs <= impl.MaxSegs; segs++ {
		for keep := range segs + 1 {
			g := newLog(segs)
			for n := range segs {
				free := segs - 1 - n
				next, ok := opens(t, "one behind the other", g, keep)
				if ok != (free > keep) {
					t.Fatalf("%d of %d free, keep %d: %v", free, segs, keep, ok)
				}
				if ok && (len(next.Used) != n+2 || next.Used[n+1].No != n+1 || next.NextGen != n+3) {
					t.Fatalf("of %d segments: %s", segs, tellLog(next))
				}
				g = next
			}
		}
	}
}

func TestOpenSegWithTheGreatestGen(t *testing.T) {
	for _, n := range []int{126, 127, 128, 16383, impl.MaxNumber - 2, impl.MaxNumber - 1} {
		g := newLog(6)
		g.NextGen = n
		got, ok := opens(t, "a great Gen", g, 0)
		if !ok || got.Used[1].Gen != n || got.NextGen != n+1 || got.Used[1].End != 9+len(varAsSaid(n)) {
			t.Errorf("NextGen %d: %v, %s", n, ok, tellLog(got))
		}
	}
	g := newLog(6)
	g.NextGen = impl.MaxNumber
	if _, ok := opens(t, "the greatest NextGen", g, 0); ok {
		t.Error("a segment is opened with a Gen of MaxNumber")
	}
	if got, ok := appends(t, "the greatest NextGen", g, dropItem(4, 1), 0); !ok || got.NextGen != impl.MaxNumber {
		t.Error("what fits in the head asks for a NextGen")
	}
}

func TestAppendItemToAKnownLog(t *testing.T) {
	g := newLog(5)
	x := dropItem(1, 3)
	got, ok := impl.AppendItem(g, x, 0)
	if !ok || len(got.Used) != 1 || !sameSeg(got.Used[0], impl.Seg{Gen: 1, End: 25, Items: []impl.Item{x}}) {
		t.Fatalf("%v, %s", ok, tellLog(got))
	}
	if got.NextGen != 2 || got.NextSeq != 2 || got.NextValid != 4 || got.Stamp != 1 || got.Segs != 5 {
		t.Errorf("numbers: %s", tellLog(got))
	}
	y := addItem(9, 2, 200, 5, "hello")
	got, ok = impl.AppendItem(got, y, 4)
	if !ok || !sameSeg(got.Used[0], impl.Seg{Gen: 1, End: 46, Items: []impl.Item{x, y}}) || got.NextSeq != 10 || got.NextValid != 4 {
		t.Fatalf("%v, %s", ok, tellLog(got))
	}
	frames := []impl.Frame{{Gen: 1, Seq: 1, Body: "\x02\x03\x00\x00\x00\x00\x00\x00"}, {Gen: 1, Seq: 9, Body: "\x03\x02\xc8\x01\x00\x05\x00\x00\x05hello"}}
	segHas(t, "known items", got.Disk, 0, 1, frames, 46)
	if want := putAsSaid(g.Disk, 0, 10, framesAsSaid(frames)); !sameDisk(got.Disk, want) {
		t.Error("something else is on the disk")
	}
	if !slices.Equal(impl.ItemsOf(got), []impl.Item{x, y}) || !impl.LogOk(got) {
		t.Errorf("not right: %s", tellLog(got))
	}
}

func TestAppendItemMovesTheNextNumbers(t *testing.T) {
	for _, c := range []struct{ seq, valid, nextSeq, nextValid int }{
		{5, 1, 40, 8}, {39, 7, 40, 8}, {39, 8, 40, 9}, {40, 7, 41, 8}, {40, 8, 41, 9}, {41, 9, 42, 10}, {5, 100, 40, 101}, {5000, 2, 5001, 8},
		{impl.MaxNumber - 1, impl.MaxValid, impl.MaxNumber, impl.MaxValid + 1},
	} {
		got, ok := appends(t, "next numbers", severalLog(), goneItem(c.seq, c.valid, 4), 0)
		if !ok || got.NextSeq != c.nextSeq || got.NextValid != c.nextValid || got.NextGen != 12 || got.Stamp != 2 {
			t.Errorf("Seq %d, Valid %d: %v, %s", c.seq, c.valid, ok, tellLog(got))
		}
		isRight(t, "next numbers", got)
	}
}

func TestAppendItemToRightLogs(t *testing.T) {
	for what, g := range rightLogs() {
		free := len(freeAsSaid(g))
		for i, r := range someRecs() {
			for _, seq := range []int{g.NextSeq - 1, g.NextSeq, g.NextSeq + 1, 1, 777, impl.MaxNumber - 1, impl.MaxNumber, impl.MaxNumber + 1, 0, -1} {
				keep := []int{0, free - 1, free, -1, math.MaxInt, math.MinInt}[i%6]
				appends(t, what, g, impl.Item{Seq: seq, Rec: r}, keep)
			}
			appendsRec(t, what, g, r, i%3)
		}
		for _, x := range itemsIn(g.Used)[:min(5, len(itemsIn(g.Used)))] {
			appends(t, what+", the same again", g, x, 0)
		}
	}
}

func TestAppendItemRefuses(t *testing.T) {
	g := severalLog()
	refuses := func(what string, x impl.Item, keep int) {
		t.Helper()
		if _, ok := appends(t, what, g, x, keep); ok {
			t.Errorf("%s: appended: %+v, keep %d", what, x, keep)
		}
	}
	for _, seq := range append([]int{impl.MaxNumber}, wrongFrameNumbers...) {
		refuses("a wrong Seq", dropItem(seq, 1), 0)
	}
	for _, r := range wrongRecs() {
		refuses("a wrong record", impl.Item{Seq: 50, Rec: r}, 0)
		if got, ok := impl.AppendRec(g, r, 0); ok || !alikeLogs(got, g) {
			t.Errorf("AppendRec of %+v: %v", r, ok)
		}
	}
	refuses("nothing", impl.Item{}, 0)
	for _, keep := range []int{-1, -2, -256, math.MinInt} {
		refuses("keep below 0", dropItem(50, 1), keep)
		if got, ok := impl.AppendRec(g, dropItem(0, 1).Rec, keep); ok || !alikeLogs(got, g) {
			t.Errorf("AppendRec, keep %d: %v", keep, ok)
		}
	}
	for _, x := range itemsIn(g.Used) {
		refuses("another one of that Seq", dropItem(x.Seq, 7), 0)
		x.Rec.Valid++
		refuses("another Valid of that Seq", x, 0)
		x.Seq = 33
		if _, ok := appends(t, "of another Seq", g, x, 0); !ok {
			t.Errorf("not appended: %+v", x)
		}
	}
	for _, x := range itemsIn(g.Used) {
		if got, ok := appends(t, "the same again", g, x, 0); !ok || !impl.LogOk(got) || got.NextSeq != 40 || got.NextValid != 8 {
			t.Errorf("the same again, %+v: %v, %s", x, ok, tellLog(got))
		}
	}
}

// addOf is an item whose frame, of that Gen, has so many bytes.
func addOf(t *testing.T, size, seq, gen int) impl.Item {
	t.Helper()
	x := addItem(seq, 1, 1, 0, "")
	x.Rec.Text = bodyOf(size - len(itemAsSaid(x, gen)))
	if len(itemAsSaid(x, gen)) != size {
		t.Fatalf("no frame of %d bytes", size)
	}
	return x
}

// nearlyFull has a head with so many bytes left, and one more segment ahead.
func nearlyFull(t *testing.T, segs, left int) impl.Log {
	t.Helper()
	one, two := addOf(t, 100, 11, 6), addOf(t, 146-left, 12, 6)
	g := logWith(segs, segOf(3, 5, dropItem(7, 4)), segOf(1, 6, one, two))
	if g.Used[1].End != impl.SegSize-left {
		t.Fatalf("%d bytes are left, not %d", impl.SegSize-g.Used[1].End, left)
	}
	return g
}

func TestAppendItemThatFitsJustSo(t *testing.T) {
	for _, segs := range []int{5, 8, 11} {
		for left := 35; left <= 110; left += 5 {
			g := nearlyFull(t, segs, left)
			for _, keep := range []int{0, 1, segs - 2, segs, math.MaxInt} {
				got, ok := appends(t, "just so", g, addOf(t, left, 13, 6), keep)
				if !ok || len(got.Used) != 2 || got.Used[1].End != impl.SegSize || got.NextGen != 7 {
					t.Fatalf("%d bytes left, keep %d: %v, %s", left, keep, ok, tellLog(got))
				}
				isRight(t, "just so", got)
				fullHeadOpens(t, got)
			}
		}
	}
}

// fullHeadOpens asks that behind a head without room a new one is opened,
// however short the item is.
func fullHeadOpens(t *testing.T, g impl.Log) {
	t.Helper()
	got, ok := appends(t, "full", g, dropItem(1, 1), 0)
	if !ok || len(got.Used) != len(g.Used)+1 || !sameSeg(got.Used[len(g.Used)], impl.Seg{No: 0, Gen: 7, End: 25, Items: []impl.Item{dropItem(1, 1)}}) {
		t.Errorf("behind a full head: %v, %s", ok, tellLog(got))
	}
}

func TestAppendItemThatIsOneByteTooLong(t *testing.T) {
	for _, segs := range []int{5, 8, 11} {
		for left := 35; left <= 110; left += 5 {
			g, x := nearlyFull(t, segs, left), addOf(t, left+1, 13, 6)
			free := segs - 2
			for keep := range segs {
				got, ok := appends(t, "one byte too long", g, x, keep)
				if ok != (free > keep) {
					t.Fatalf("%d free, keep %d: %v", free, keep, ok)
				}
				if !ok {
					continue
				}
				if len(got.Used) != 3 || got.Used[2].No != 0 || got.Used[2].Gen != 7 || got.NextGen != 8 || !slices.Equal(got.Used[2].Items, []impl.Item{x}) || !sameSeg(got.Used[1], g.Used[1]) {
					t.Fatalf("%d bytes left, keep %d: %s", left, keep, tellLog(got))
				}
				isRight(t, "one byte too long", got)
				segHas(t, "a new head", got.Disk, 0, 7, []impl.Frame{{Gen: 7, Seq: 13, Body: recAsSaid(x.Rec)}}, 10+left+1)
			}
		}
	}
}

// A new head may have a longer Gen: it is this one's length that counts there.
func TestAppendItemToANewHeadOfALongerGen(t *testing.T) {
	g := logWith(5, segOf(2, 127, addOf(t, 100, 5, 127), addOf(t, 110, 6, 127)))
	x := addOf(t, 40, 7, 127)
	got, ok := appends(t, "a longer Gen", g, x, 3)
	if !ok || !sameSeg(got.Used[1], impl.Seg{No: 0, Gen: 128, End: 11 + 41, Items: []impl.Item{x}}) {
		t.Errorf("%v, %s", ok, tellLog(got))
	}
	isRight(t, "a longer Gen", got)
}

func TestAppendItemThatNeedsAHeadThatCanNotBe(t *testing.T) {
	x := addOf(t, 60, 13, 6)
	g := nearlyFull(t, 5, 50)
	g.NextGen = impl.MaxNumber
	if _, ok := appends(t, "the greatest NextGen", g, x, 0); ok {
		t.Error("a head of Gen MaxNumber is opened")
	}
	g.NextGen--
	got, ok := appends(t, "the greatest NextGen but one", g, x, 0)
	if !ok || got.Used[2].Gen != impl.MaxNumber-1 || got.NextGen != impl.MaxNumber {
		t.Errorf("%v, %s", ok, tellLog(got))
	}
	isRight(t, "the greatest NextGen but one", got)
	full := fullestLog(impl.MaxSegs)
	for _, keep := range []int{0, 1, math.MaxInt} {
		if _, ok := appends(t, "none free", full, dropItem(1, 1), keep); ok {
			t.Error("appended to a log without room")
		}
		if _, ok := appendsRec(t, "none free", full, dropItem(0, 1).Rec, keep); ok {
			t.Error("appended to a log without room")
		}
	}
}

func TestAppendRec(t *testing.T) {
	g, want := newLog(6), []impl.Item{}
	for i, r := range slices.Concat(plainRecs(), leastRecs(), greatestRecs()) {
		next, ok := appendsRec(t, "one behind the other", g, r, 0)
		want = append(want, impl.Item{Seq: i + 1, Rec: r})
		if !ok || next.NextSeq != i+2 || !slices.Equal(impl.ItemsOf(next), want) {
			t.Fatalf("record %d: %v, %s", i, ok, tellLog(next))
		}
		isRight(t, "one behind the other", next)
		g = next
	}
	for _, n := range []int{127, 128, impl.MaxNumber - 2, impl.MaxNumber - 1} {
		g := newLog(6)
		g.NextSeq = n
		got, ok := appendsRec(t, "a great Seq", g, dropItem(0, 9).Rec, 0)
		if !ok || !slices.Equal(impl.ItemsOf(got), []impl.Item{dropItem(n, 9)}) || got.NextSeq != n+1 {
			t.Errorf("NextSeq %d: %v, %s", n, ok, tellLog(got))
		}
	}
	g = newLog(6)
	g.NextSeq = impl.MaxNumber
	if _, ok := appendsRec(t, "the greatest NextSeq", g, dropItem(0, 9).Rec, 0); ok {
		t.Error("a record of Seq MaxNumber is appended")
	}
	if got, ok := appends(t, "a lesser Seq", g, dropItem(5, 9), 0); !ok || got.NextSeq != impl.MaxNumber {
		t.Error("an item of a lesser Seq is not appended")
	}
}

func TestItemsOf(t *testing.T) {
	g := severalLog()
	want := []impl.Item{
		boxItem(1, 1, 1, "ann", "inbox"), addItem(2, 1, 1, 0, "hello\n"), boxItem(3, 5, 1, "bob", "old"),
		flagItem(30, 1, 1, 2), addItem(4, 5, 1, 7, "to bob"), goneItem(31, 1, 1),
	}
	if got := impl.ItemsOf(g); !slices.Equal(got, want) {
		t.Errorf("ItemsOf is %+v", got)
	}
	for what, g := range rightLogs() {
		if got := impl.ItemsOf(g); !slices.Equal(got, itemsIn(g.Used)) {
			t.Errorf("%s: ItemsOf is %+v", what, got)
		}
	}
	long := impl.Log{Used: []impl.Seg{{Items: manySeqs(300)}, {}, {Items: manySeqs(2)}, {Items: []impl.Item{{}}}}}
	if got := impl.ItemsOf(long); len(got) != 303 || !slices.Equal(got, itemsIn(long.Used)) {
		t.Errorf("of 303 items that are not right ItemsOf has %d", len(got))
	}
	if got := impl.ItemsOf(impl.Log{}); len(got) != 0 {
		t.Errorf("of nothing ItemsOf has %d", len(got))
	}
}

// The fullest log comes about by appending, too, and is refused just then.
func TestAppendItemUntilNothingFits(t *testing.T) {
	for segs := impl.MinSegs; segs <= impl.MaxSegs; segs++ {
		for _, keep := range []int{0, 2, segs - 1} {
			g, n := newLog(segs), 0
			for {
				next, ok := appends(t, "until nothing fits", g, dropItem(1+n%120, 1+n%120), keep)
				if !ok {
					break
				}
				isRight(t, "until nothing fits", next)
				g, n = next, n+1
			}
			if n != 16*(segs-keep) || len(impl.FreeSegs(g)) != keep || len(impl.ItemsOf(g)) != n {
				t.Errorf("%d segments, keep %d: %d items, %d free", segs, keep, n, len(impl.FreeSegs(g)))
			}
		}
	}
}

// withBehind is a log of one segment, with this text so many bytes behind its
// End, and bytes there that are no frame.
func withBehind(gap int, text string) impl.Log {
	g := logWith(5, segOf(2, 6, plainItems()...))
	g.Disk = putAsSaid(g.Disk, 2, g.Used[0].End, "\xff\xff\xff\xff\xff\xff")
	g.Disk = putAsSaid(g.Disk, 2, g.Used[0].End+gap, text)
	return g
}

// What lies behind the place that is written is read when it is a right frame
// of that Gen, just there: the log that is answered is not right then.
func TestAppendItemAheadOfWhatIsAnotherOnes(t *testing.T) {
	x := dropItem(20, 3)
	size := len(itemAsSaid(x, 6))
	for what, behind := range map[string]string{
		"an item":           itemAsSaid(dropItem(21, 3), 6),
		"the same item":     itemAsSaid(x, 6),
		"two items":         itemAsSaid(dropItem(21, 3), 6) + itemAsSaid(dropItem(22, 3), 6),
		"what is no item":   frameAsSaid(impl.Frame{Gen: 6, Seq: 21, Body: "hi"}),
		"a first frame":     frameAsSaid(segMark(6)),
		"another one's Seq": itemAsSaid(dropItem(20, 4), 6),
	} {
		g := withBehind(size, behind)
		isRight(t, what, g)
		got, ok := appends(t, what, g, x, 0)
		if !ok || got.Used[0].End != g.Used[0].End+size || len(got.Used[0].Items) != len(g.Used[0].Items)+1 || got.NextSeq != 21 || got.NextValid != 4 {
			t.Errorf("%s: %v, %s", what, ok, tellLog(got))
		}
		if frames, end := impl.SegFrames(got.Disk, 2); len(frames) <= len(got.Used[0].Items) || end <= got.Used[0].End {
			t.Errorf("%s: it is not read", what)
		}
		refusesLog(t, what, got)
	}
}

func TestAppendItemAheadOfWhatIsNotRead(t *testing.T) {
	x := dropItem(20, 3)
	size, text := len(itemAsSaid(x, 6)), itemAsSaid(dropItem(21, 3), 6)
	for what, g := range map[string]impl.Log{
		"of another Gen":       withBehind(size, itemAsSaid(dropItem(21, 3), 5)),
		"of a greater Gen":     withBehind(size, itemAsSaid(dropItem(21, 3), 7)),
		"one byte behind":      withBehind(size, "\x00"+text),
		"one byte ahead":       withBehind(size-1, text),
		"a byte turned":        withBehind(size, text[:len(text)-1]+"\x01"),
		"cut":                  withBehind(size, text[:len(text)-1]+"\x00\x00"),
		"noughts":              withBehind(size, "\x00\x00\x00\x00\x00\x00\x00\x00"),
		"at the place written": withBehind(6, text),
	} {
		isRight(t, what, g)
		got, ok := appends(t, what, g, x, 0)
		if !ok {
			t.Errorf("%s: not appended", what)
		}
		isRight(t, what, got)
	}
}

// A segment that is opened may have been in use: of what it had nothing is
// read, unless it is of the Gen that is given now.
func TestOpenSegWhereSomethingLay(t *testing.T) {
	old := segAsSaid(4, plainItems())
	mark := frameAsSaid(segMark(9))
	x := dropItem(50, 3)
	for what, c := range map[string]struct {
		lay      string
		opened   bool
		appended bool
	}{
		"an earlier use":             {lay: old, opened: true, appended: true},
		"a use that was greater":     {lay: segAsSaid(20, plainItems()), opened: true, appended: true},
		"an item of that Gen":        {lay: mark + itemAsSaid(dropItem(7, 7), 9), appended: true},
		"what is no item, of it":     {lay: mark + frameAsSaid(segMark(9)), appended: true},
		"an item behind the next":    {lay: mark + itemAsSaid(x, 4) + itemAsSaid(dropItem(7, 7), 9), opened: true},
		"two items, one just behind": {lay: mark + itemAsSaid(dropItem(51, 3), 9) + itemAsSaid(dropItem(7, 7), 9)},
	} {
		full := logWith(5, segOf(1, 8, addOf(t, 115, 60, 8), addOf(t, 115, 61, 8), dropItem(62, 1)))
		full.Disk = putAsSaid(full.Disk, 0, 0, c.lay)
		isRight(t, what, full)
		got, ok := opens(t, what, full, 0)
		if !ok || impl.LogOk(got) != c.opened || !sameSeg(got.Used[1], impl.Seg{Gen: 9, End: 10}) {
			t.Errorf("%s: %v, opened, LogOk is %v: %s", what, ok, impl.LogOk(got), tellLog(got))
		}
		got, ok = appends(t, what, full, x, 0)
		if !ok || impl.LogOk(got) != c.appended || !sameSeg(got.Used[1], impl.Seg{Gen: 9, End: 25, Items: []impl.Item{x}}) {
			t.Errorf("%s: %v, appended, LogOk is %v: %s", what, ok, impl.LogOk(got), tellLog(got))
		}
	}
}

// drawnItem is one of the log's own again, one of any Seq that may be another
// one's, or the next one.
func drawnItem(d *drawing, g impl.Log) impl.Item {
	items := itemsIn(g.Used)
	r := d.rec()
	if d.below(3) == 0 && r.Kind == impl.RecAdd {
		r.Text = bodyOf(d.below(impl.MaxText9 + 1))
	}
	switch way := d.below(10); {
	case way == 0 && len(items) > 0:
		return items[d.below(len(items))]
	case way == 1:
		return impl.Item{Seq: d.of(1, 2, 40, g.NextSeq-1, g.NextSeq+1, g.NextSeq+3), Rec: r}
	case way == 2:
		return impl.Item{Seq: d.of(0, -1, impl.MaxNumber, impl.MaxNumber+1, g.NextSeq), Rec: r}
	}
	return impl.Item{Seq: g.NextSeq, Rec: r}
}

// liveOn appends to a log, and opens segments; now and then the oldest one is
// in use no more, so that it is written on again.
func liveOn(t *testing.T, d *drawing, g impl.Log) impl.Log {
	t.Helper()
	keep := d.of(0, 0, 0, 1, 2, 3, -1)
	switch d.below(25) {
	case 0:
		next, _ := opens(t, "a drawn life", g, keep)
		return next
	case 1:
		next, _ := appendsRec(t, "a drawn life", g, d.rec(), keep)
		return next
	case 2, 3:
		if len(g.Used) > 1 {
			g = copyOfLog(g)
			g.Used = g.Used[1:]
		}
		return g
	}
	next, _ := appends(t, "a drawn life", g, drawnItem(d, g), keep)
	return next
}

// Promise 9, in drawn lives.
func TestWhatIsAppendedIsReadFromTheDisk(t *testing.T) {
	for seed := range 14 {
		d := drawing(seed)
		g := newLog(impl.MinSegs + seed%7)
		if seed%2 == 1 {
			g = logOn(unlikeDisk(len(g.Disk.Sectors)+seed%4), segOf(seed%5, d.of(1, 100, 127, 16380, 2097140)))
		}
		for range 150 {
			g = liveOn(t, &d, g)
			isRight(t, "a drawn life", g)
			if t.Failed() {
				t.Fatalf("seed %d", seed)
			}
		}
		if g.NextGen < 4 || len(g.Used) < 1 {
			t.Errorf("seed %d: nothing came about: %s", seed, tellLog(g))
		}
	}
}

// What a crash leaves of a log that was answered is all of it: nothing waits.
func TestWhatIsAppendedStaysInACrash(t *testing.T) {
	g := severalLog()
	for i, r := range slices.Concat(plainRecs(), greatestRecs()) {
		next, ok := impl.AppendRec(g, r, 0)
		if !ok {
			t.Fatalf("record %d is not appended", i)
		}
		torn := copyOfLog(next)
		torn.Disk = impl.CrashDisk(torn.Disk, []int{0, 0, 0}, i)
		isRight(t, "after a crash", torn)
		if !alikeLogs(torn, next) {
			t.Errorf("record %d: a crash leaves another log", i)
		}
		g = next
	}
}

// roomyLog is the same log, with room behind all its lists and texts.
func roomyLog(g impl.Log) impl.Log {
	out := g
	out.Disk = withRoom(g.Disk)
	for i, s := range out.Disk.Sectors {
		out.Disk.Sectors[i], _ = roomy(s)
	}
	out.Used = make([]impl.Seg, 0, len(g.Used)+2)
	for _, s := range g.Used {
		s.Items = roomyItems(s.Items)
		out.Used = append(out.Used, s)
	}
	out.Used = append(out.Used, impl.Seg{No: 55}, impl.Seg{No: 56})[:len(g.Used)]
	return out
}

// fullLog has all lists with their spare room in sight, as a copy.
func fullLog(g impl.Log) impl.Log {
	out := g
	out.Disk = ofDisk(fully(g.Disk))
	out.Used = slices.Clone(g.Used[:cap(g.Used)])
	for i, s := range out.Used {
		out.Used[i].Items = slices.Clone(s.Items[:cap(s.Items)])
	}
	return out
}

func textsOfLog(g impl.Log) []string {
	out := textsOfDisk(g.Disk)
	for _, s := range g.Used {
		out = append(out, textsOfRecs(recsOf(s.Items))...)
	}
	return out
}

func scribbleLog(g impl.Log) {
	scribble(g.Disk)
	for _, s := range g.Used {
		scribbleOver(s.Items, dropItem(66, 66))
	}
	scribbleOver(g.Used, impl.Seg{No: 66, Gen: 66})
}

// answersOfLog is every log that the chapter's functions make of one.
func answersOfLog(g impl.Log, x impl.Item) []impl.Log {
	out := []impl.Log{}
	for _, keep := range []int{0, -1} {
		opened, _ := impl.OpenSeg(g, keep)
		appended, _ := impl.AppendItem(g, x, keep)
		next, _ := impl.AppendRec(g, x.Rec, keep)
		out = append(out, opened, appended, next)
	}
	return out
}

func TestNoLogIsWrittenOn(t *testing.T) {
	logs := map[string]impl.Log{
		"several": severalLog(), "new": newLog(5), "full": fullestLog(6), "nearly full": nearlyFull(t, 6, 40), "nothing": {}, "great": greatLog(),
		"wrong numbers": turned(func(g *impl.Log) { g.NextSeq = 0 }), "wrong Items": turned(func(g *impl.Log) { g.Used[1].Items = plainItems() }),
		"a write that waits": turned(func(g *impl.Log) { g.Disk.Cache = cacheOf(3, 9) }), "no Used": turned(func(g *impl.Log) { g.Used = nil }),
	}
	for what, plain := range logs {
		for _, y := range []impl.Item{addItem(700, 2, 3, 1, "some text"), boxItem(701, 2, 3, "eve", "old"), addItem(702, 2, 3, 1, bodyOf(100)), {Seq: 0, Rec: impl.Rec{User: "U", Name: "N", Text: "T"}}} {
			g := roomyLog(plain)
			r, buffers := roomyRec(y.Rec)
			x := impl.Item{Seq: y.Seq, Rec: r}
			before := fullLog(g)
			first, second := answersOfLog(g, x), answersOfLog(g, x)
			items, again := impl.ItemsOf(g), impl.ItemsOf(g)
			free, freeAgain := impl.FreeSegs(g), impl.FreeSegs(g)
			impl.LogOk(g)
			texts := slices.Concat(textsOfLog(g), textsOfRecs([]impl.Rec{r}), textsOfRecs(recsOf(items)), textsOfRecs(recsOf(again)))
			for _, answer := range append(first, second...) {
				texts = append(texts, textsOfLog(answer)...)
			}
			noneOfManyShared(t, what, texts)
			for i, answer := range first {
				listsOfTheirOwn(t, what, answersOfLog(g, x)[i])
				kept := fullLog(second[i])
				if !alikeLogs(answer, second[i]) {
					t.Errorf("%s: answer %d is another one the next time", what, i)
				}
				scribbleLog(answer)
				if !alikeLogs(fullLog(second[i]), kept) {
					t.Errorf("%s: two answers share memory", what)
				}
			}
			scribbleOver(items, dropItem(66, 66))
			scribbleOver(free, 66)
			if !slices.Equal(again, itemsIn(plain.Used)) || slices.Contains(freeAgain, 66) {
				t.Errorf("%s: two lists share memory", what)
			}
			if !alikeLogs(fullLog(g), before) || !alikeLogs(g, plain) {
				t.Errorf("%s: the log handed in is written on", what)
			}
			for i, s := range []string{y.Rec.User, y.Rec.Name, y.Rec.Text} {
				if string(buffers[i]) != s+"room behind it" {
					t.Errorf("%s: the record handed in is written on", what)
				}
			}
		}
	}
}

// listsOfTheirOwn writes over each list of items, and into its spare room, and
// asks that the others stay.
func listsOfTheirOwn(t *testing.T, what string, g impl.Log) {
	t.Helper()
	for i := range g.Used {
		scribbleOver(g.Used[i].Items, dropItem(1000+i, 66))
	}
	for i, s := range g.Used {
		for _, x := range s.Items[:cap(s.Items)] {
			if x != dropItem(1000+i, 66) {
				t.Errorf("%s: two lists of one answer share memory", what)
				return
			}
		}
	}
}

// noneOfManyShared asks what noneShared does, of texts that are many.
func noneOfManyShared(t *testing.T, what string, texts []string) {
	t.Helper()
	sorted := slices.DeleteFunc(texts, func(s string) bool { return s == "" })
	slices.SortFunc(sorted, func(a, b string) int { return cmp.Compare(placeOf(a), placeOf(b)) })
	for i := 1; i < len(sorted); i++ {
		if overlap(sorted[i-1], sorted[i]) {
			t.Errorf("%s: %q and %q share memory", what, sorted[i-1], sorted[i])
			return
		}
	}
}

func placeOf(s string) uintptr {
	return uintptr(unsafe.Pointer(unsafe.StringData(s)))
}
