package tests

import (
	"cmp"
	"fmt"
	"math"
	"slices"
	"strings"
	"testing"

	"loop.example/g00287/impl"
)

// segOfAsSaid is the document's own words.
func segOfAsSaid(d impl.Disk, no int) impl.Seg {
	text := segTextAsSaid(d, no)
	first, at, ok := impl.ReadFrame(text, 0)
	if !ok || first.Body != "seg" {
		return impl.Seg{No: no}
	}
	s := impl.Seg{No: no, Gen: first.Gen}
	for {
		f, behind, ok := impl.ReadFrame(text, at)
		if !ok || f.Gen != first.Gen {
			s.End = at
			return s
		}
		if r, ok := readRecAsSaid(f.Body); ok {
			s.Items = append(s.Items, impl.Item{Seq: f.Seq, Rec: r})
		}
		at = behind
	}
}

// recoverAsSaid is the document's own words.
func recoverAsSaid(d impl.Disk) (impl.Log, bool) {
	segs := (len(d.Sectors) - 8) / 8
	c, found := newestAsSaid(d)
	if !impl.DiskOk(d) || len(d.Cache) > 0 || segs < 5 || segs > 11 || !found {
		return impl.Log{}, false
	}
	g := impl.Log{Disk: ofDisk(d), Segs: segs, NextGen: c.NextGen, NextSeq: c.NextSeq, Stamp: c.Stamp, NextValid: c.NextValid}
	for _, r := range c.Refs {
		if s := segOfAsSaid(d, r.No); s.Gen == r.Gen {
			g.Used = append(g.Used, s)
		}
	}
	for no := range segs {
		if s := segOfAsSaid(d, no); s.Gen >= c.NextGen {
			g.Used = append(g.Used, s)
		}
	}
	slices.SortStableFunc(g.Used, func(a, b impl.Seg) int { return cmp.Compare(a.Gen, b.Gen) })
	for _, s := range g.Used {
		g.NextGen = max(g.NextGen, s.Gen+1)
	}
	for _, x := range itemsIn(g.Used) {
		g.NextSeq, g.NextValid = max(g.NextSeq, x.Seq+1), max(g.NextValid, x.Rec.Valid+1)
	}
	if !logRightAsSaid(g) {
		return impl.Log{}, false
	}
	return g, true
}

// sameLogAsSaid is the document's own words.
func sameLogAsSaid(a, b impl.Log) bool {
	return len(a.Used) == len(b.Used) && slices.EqualFunc(a.Used, b.Used, sameSeg) &&
		a.NextGen == b.NextGen && a.NextSeq == b.NextSeq && a.NextValid == b.NextValid
}

// comesUp asks for the answer as the document says it, and that the disk that
// was handed in is as it was.
func comesUp(t *testing.T, what string, d impl.Disk) (impl.Log, bool) {
	t.Helper()
	before := ofDisk(d)
	want, right := recoverAsSaid(d)
	got, ok := impl.RecoverLog(d)
	if ok != right || !alikeLogs(got, want) {
		t.Errorf("%s: RecoverLog is %v, %s; not %v, %s", what, ok, tellLog(got), right, tellLog(want))
	}
	if !sameDisk(d, before) {
		t.Errorf("%s: the disk handed in is written on", what)
	}
	if ok {
		isRight(t, what, got)
	}
	return got, ok
}

// comesUpAs asks for this log, every field of it.
func comesUpAs(t *testing.T, what string, d impl.Disk, want impl.Log) {
	t.Helper()
	got, ok := comesUp(t, what, d)
	if !ok || !alikeLogs(got, want) || !impl.SameLog(got, want) {
		t.Errorf("%s: %v, %s comes up, not %s", what, ok, tellLog(got), tellLog(want))
	}
}

func comesUpNot(t *testing.T, what string, d impl.Disk) {
	t.Helper()
	if got, ok := comesUp(t, what, d); ok || !alikeLogs(got, impl.Log{}) {
		t.Errorf("%s: %v, %s comes up", what, ok, tellLog(got))
	}
}

// checkedWith has the check in its region.
func checkedWith(d impl.Disk, c impl.Check) impl.Disk {
	return putFrom(d, 128*(c.Stamp%2), checkAsSaid(c))
}

// checkedLog has the check of the log, of its own Stamp, on its disk.
func checkedLog(g impl.Log) impl.Log {
	c := checkOfAsSaid(g)
	c.Stamp = g.Stamp
	g.Disk = checkedWith(g.Disk, c)
	return g
}

// segIs asks for every field of a segment, as the document says it.
func segIs(t *testing.T, what string, d impl.Disk, want impl.Seg) {
	t.Helper()
	before := ofDisk(d)
	got := impl.SegOf(d, want.No)
	if !sameSeg(got, want) || !sameSeg(got, segOfAsSaid(d, want.No)) {
		t.Errorf("%s: SegOf %d is %+v, not %+v", what, want.No, got, want)
	}
	if !sameDisk(d, before) {
		t.Errorf("%s: the disk handed in is written on", what)
	}
}

func TestSegOfAKnownDisk(t *testing.T) {
	d := putAsSaid(unlikeDisk(sectorsOf(5)), 2, 0, segAsSaid(7, []impl.Item{dropItem(9, 3), addItem(4, 2, 200, 5, "hello")}))
	got := impl.SegOf(d, 2)
	if got.No != 2 || got.Gen != 7 || got.End != 46 || len(got.Items) != 2 {
		t.Fatalf("SegOf is %+v", got)
	}
	if got.Items[0] != dropItem(9, 3) || got.Items[1] != addItem(4, 2, 200, 5, "hello") {
		t.Errorf("SegOf has the items %+v", got.Items)
	}
	d = putAsSaid(d, 0, 0, segAsSaid(1, nil))
	segIs(t, "without items", d, impl.Seg{No: 0, Gen: 1, End: 10})
	segIs(t, "not in use", d, impl.Seg{No: 1})
}

func TestSegOfEachSegment(t *testing.T) {
	for what, items := range map[string][]impl.Item{
		"no items": nil, "one": {dropItem(9, 3)}, "several": plainItems(), "out of order": {dropItem(9, 3), dropItem(2, 3), dropItem(5, 1)},
		"the same again": {dropItem(9, 3), dropItem(9, 3)}, "another one of that Seq": {dropItem(9, 3), dropItem(9, 4)},
		"as many as fit": manySeqs(17)[1:], "great": {goneItem(impl.MaxNumber, impl.MaxValid, impl.MaxValid)},
	} {
		for _, gen := range []int{1, 127, 128, impl.MaxNumber} {
			s := segOf(0, gen, items...)
			if s.End > impl.SegSize {
				continue
			}
			for _, segs := range []int{5, 8, 11} {
				for s.No = range segs {
					d := putAsSaid(unlikeDisk(sectorsOf(segs)), s.No, 0, segAsSaid(gen, items))
					segIs(t, what, d, s)
					for other := range segs {
						if other != s.No {
							segIs(t, what+", another one", d, impl.Seg{No: other})
						}
					}
				}
			}
		}
	}
	for what, g := range rightLogs() {
		for _, s := range g.Used {
			segIs(t, what, g.Disk, s)
		}
	}
}

// What stands in a segment but is not of it is not told.
func TestSegOfWhatIsNotRead(t *testing.T) {
	items, text := plainItems(), segAsSaid(6, plainItems())
	for what, c := range map[string]struct {
		text string
		want impl.Seg
	}{
		"noughts":                     {strings.Repeat("\x00", 256), impl.Seg{}},
		"an item ahead of the mark":   {itemAsSaid(dropItem(3, 1), 6) + text, impl.Seg{}},
		"another Body ahead":          {frameAsSaid(impl.Frame{Gen: 6, Seq: 1, Body: "sea"}) + text, impl.Seg{}},
		"a mark that is turned":       {"\x07" + text[1:], impl.Seg{}},
		"one byte further on":         {"\x00" + text, impl.Seg{}},
		"a mark of another Seq":       {frameAsSaid(impl.Frame{Gen: 6, Seq: 99, Body: "seg"}) + text[10:], segOf(0, 6, items...)},
		"an item of another Gen":      {text + itemAsSaid(dropItem(9, 3), 5), segOf(0, 6, items...)},
		"an item of a greater Gen":    {text + itemAsSaid(dropItem(9, 3), 7), segOf(0, 6, items...)},
		"an item behind another Gen":  {text + itemAsSaid(dropItem(9, 3), 5) + itemAsSaid(dropItem(9, 3), 6), segOf(0, 6, items...)},
		"an item one byte further on": {text + "\x00" + itemAsSaid(dropItem(9, 3), 6), segOf(0, 6, items...)},
		"a last item that is cut":     {text + itemAsSaid(dropItem(9, 3), 6)[:14] + "\xff", segOf(0, 6, items...)},
		"a first item that is turned": {text[:10] + "\x06\x02" + text[12:], segOf(0, 6)},
		"a mark alone":                {text[:10], segOf(0, 6)},
	} {
		for no := range 6 {
			c.want.No = no
			segIs(t, what, putAsSaid(unlikeDisk(sectorsOf(6)), no, 0, c.text), c.want)
		}
	}
}

// noItems are Bodies of right frames that are no record's.
func noItems() map[string]string {
	return map[string]string{
		"seg": "seg", "any": "hi", "a record and more": recAsSaid(dropItem(0, 1).Rec) + "\x00", "a cut one": recAsSaid(dropItem(0, 1).Rec)[:7],
		"no Kind": recAsSaid(impl.Rec{Kind: 6, Valid: 1}), "no Valid": recAsSaid(impl.Rec{Kind: impl.RecDrop}),
		"a Uid too many": recAsSaid(impl.Rec{Kind: impl.RecDrop, Valid: 1, Uid: 1}), "the longest": bodyOf(impl.MaxBody),
	}
}

func TestSegOfLeavesOutWhatIsNoItem(t *testing.T) {
	one, two := dropItem(9, 3), goneItem(11, 3, 4)
	for what, body := range noItems() {
		frame := frameAsSaid(impl.Frame{Gen: 6, Seq: 10, Body: body})
		for where, c := range map[string]struct {
			text string
			want []impl.Item
		}{
			"alone":           {frame, nil},
			"first":           {frame + itemAsSaid(one, 6) + itemAsSaid(two, 6), []impl.Item{one, two}},
			"in their middle": {itemAsSaid(one, 6) + frame + itemAsSaid(two, 6), []impl.Item{one, two}},
			"last":            {itemAsSaid(one, 6) + itemAsSaid(two, 6) + frame, []impl.Item{one, two}},
		} {
			text := frameAsSaid(segMark(6)) + c.text
			d := putAsSaid(unlikeDisk(sectorsOf(5)), 4, 0, text)
			segIs(t, what+" "+where, d, impl.Seg{No: 4, Gen: 6, End: len(text), Items: c.want})
		}
	}
}

// Of a segment that is none just the No is told.
func TestSegOfNoSegment(t *testing.T) {
	full := fullestLog(impl.MaxSegs).Disk
	for _, no := range wrongSegs {
		segIs(t, "no segment", full, impl.Seg{No: no})
		segIs(t, "no disk", impl.Disk{}, impl.Seg{No: no})
	}
	for no := range impl.MaxSegs {
		segIs(t, "no disk", impl.Disk{}, impl.Seg{No: no})
		for n := range len(full.Sectors) + 1 {
			cut := impl.Disk{Sectors: full.Sectors[:n]}
			want := impl.Seg{No: no}
			if n >= sectorsOf(no+1) {
				want = fullestLog(impl.MaxSegs).Used[impl.MaxSegs-1-no]
			}
			segIs(t, fmt.Sprint("a disk of ", n, " sectors"), cut, want)
		}
	}
}

// SegOf does not ask whether the disk is right, nor whether all is flushed.
func TestSegOfWhatIsRead(t *testing.T) {
	d := unlikeDisk(sectorsOf(5))
	waiting, _ := impl.SegWrite(d, 3, 0, segAsSaid(6, plainItems()))
	segIs(t, "what waits", waiting, segOf(3, 6, plainItems()...))
	segIs(t, "what waits, and went", impl.CrashDisk(waiting, nil, 0), impl.Seg{No: 3})
	wrong := ofDisk(waiting)
	wrong.Sectors[0], wrong.Sectors[45] = "", filled('x')+"x"
	segIs(t, "a disk that is not right", wrong, segOf(3, 6, plainItems()...))
	wrong.Sectors[16] = segAsSaid(9, plainItems())
	segIs(t, "a sector that is too long", wrong, segOf(1, 9, plainItems()...))
	wrong.Sectors[16], wrong.Sectors[17] = segAsSaid(9, plainItems())[:50], segAsSaid(9, plainItems())[50:]
	segIs(t, "sectors that are too long and too short", wrong, segOf(1, 9, plainItems()...))
	for what, d := range wrongCheckDisks() {
		for no := range impl.MaxSegs {
			segIs(t, what, d, segOfAsSaid(d, no))
		}
	}
	for segs := impl.MaxSegs; segs < 14; segs++ {
		segIs(t, "a disk that is too long", putAsSaid(unlikeDisk(sectorsOf(segs)), 10, 0, segAsSaid(3, nil)), segOf(10, 3))
	}
}

// longRec is a record of which two fit in a segment.
func longRec(uid int) impl.Rec {
	return addItem(0, 2, uid, 0, bodyOf(impl.MaxText9)).Rec
}

func appended(t *testing.T, g impl.Log, list ...impl.Rec) impl.Log {
	t.Helper()
	for _, r := range list {
		next, ok := impl.AppendRec(g, r, 0)
		if !ok {
			t.Fatalf("%+v is not appended to %s", r, tellLog(g))
		}
		g = next
	}
	return g
}

// logTold asks for what a log has, spelt out.
func logTold(t *testing.T, what string, g impl.Log, nos, gens, counts []int, nextGen, nextSeq, nextValid, stamp int) {
	t.Helper()
	gotNos, gotGens, gotCounts := []int{}, []int{}, []int{}
	for _, s := range g.Used {
		gotNos, gotGens, gotCounts = append(gotNos, s.No), append(gotGens, s.Gen), append(gotCounts, len(s.Items))
	}
	if !slices.Equal(gotNos, nos) || !slices.Equal(gotGens, gens) || !slices.Equal(gotCounts, counts) {
		t.Errorf("%s: Nos %v, Gens %v, items %v; not %v, %v, %v", what, gotNos, gotGens, gotCounts, nos, gens, counts)
	}
	if g.NextGen != nextGen || g.NextSeq != nextSeq || g.NextValid != nextValid || g.Stamp != stamp {
		t.Errorf("%s: NextGen %d, NextSeq %d, NextValid %d, Stamp %d; not %d, %d, %d, %d", what, g.NextGen, g.NextSeq, g.NextValid, g.Stamp, nextGen, nextSeq, nextValid, stamp)
	}
}

// One log, from a new disk on: whenever it is asked for, it comes up.
func TestRecoverLogOfAKnownLife(t *testing.T) {
	for segs := impl.MinSegs; segs <= impl.MaxSegs; segs++ {
		step := func(what string, g impl.Log, nos, gens, counts []int, nextGen, nextSeq, nextValid, stamp int) {
			t.Helper()
			up, ok := impl.RecoverLog(g.Disk)
			if !ok || up.Segs != segs || !sameDisk(up.Disk, g.Disk) {
				t.Fatalf("%s: %v, %s", what, ok, tellLog(up))
			}
			logTold(t, what, up, nos, gens, counts, nextGen, nextSeq, nextValid, stamp)
			comesUpAs(t, what, g.Disk, g)
		}
		g, _ := impl.FormatDisk(segs)
		step("a new one", g, []int{0}, []int{1}, []int{0}, 2, 1, 1, 1)
		g = appended(t, g, boxItem(0, 2, 1, "ann", "inbox").Rec)
		step("within its head", g, []int{0}, []int{1}, []int{1}, 2, 2, 3, 1)
		g = appended(t, g, longRec(1), longRec(2), longRec(3), longRec(4))
		step("a segment opened behind its check", g, []int{0, 1, 2}, []int{1, 2, 3}, []int{2, 2, 1}, 4, 6, 3, 1)
		g = fixLog(t, "fixed", g)
		step("fixed behind that", g, []int{0, 1, 2}, []int{1, 2, 3}, []int{2, 2, 1}, 4, 6, 3, 2)
		g.Used = g.Used[1:]
		g = fixLog(t, "the oldest one is free", g)
		step("the oldest one is free", g, []int{1, 2}, []int{2, 3}, []int{2, 1}, 4, 6, 3, 3)
		g = appended(t, g, longRec(5), dropItem(0, 9).Rec, longRec(6))
		step("it is opened again", g, []int{1, 2, 0}, []int{2, 3, 4}, []int{2, 3, 1}, 5, 9, 10, 3)
		g.Used = g.Used[2:]
		g = fixLog(t, "the others are free", g)
		step("the others are free", g, []int{0}, []int{4}, []int{1}, 5, 9, 10, 4)
	}
}

// What is SameLog comes up also where the log is not new, nor near to it.
func TestRecoverLogOfRightLogs(t *testing.T) {
	for what, g := range rightLogs() {
		fixed := checkedLog(g)
		if what == "segments of other Gens that are not in use" {
			// One of them has a Gen that was not given yet: it is taken for
			// one that was opened behind the check.
			up, ok := comesUp(t, what, fixed.Disk)
			if !ok || len(up.Used) != 2 || !sameSeg(up.Used[1], segOf(0, 30, dropItem(7, 2))) || up.NextGen != 31 {
				t.Errorf("%s: %v, %s", what, ok, tellLog(up))
			}
			continue
		}
		comesUpAs(t, what, fixed.Disk, fixed)
		// Behind a check of just its first segment the others come up by
		// their Gens; what is free in between was never given.
		c := checkOfAsSaid(g)
		c.Stamp, c.Refs, c.NextGen, c.NextSeq, c.NextValid = g.Stamp, c.Refs[:1], c.Refs[0].Gen+1, 1, 1
		want := g
		want.Disk = checkedWith(g.Disk, c)
		want.NextGen = g.Used[len(g.Used)-1].Gen + 1
		want.NextSeq = 1 + greatest(itemsIn(g.Used), func(x impl.Item) int { return x.Seq })
		want.NextValid = 1 + greatest(itemsIn(g.Used), validOfItem)
		comesUpAs(t, what+", all but one behind the check", want.Disk, want)
	}
}

// crashesInto asks, of everything that the power may leave of what waits, that
// one of these logs comes up: the first one when nothing is left, the last one
// when all is. It tells how often each of them does.
func crashesInto(t *testing.T, what string, waiting impl.Disk, logs ...impl.Log) []int {
	t.Helper()
	if len(waiting.Cache) == 0 || len(waiting.Cache) > 8 {
		t.Fatalf("%s: %d writes wait", what, len(waiting.Cache))
	}
	comesUpNot(t, what+", all of it in the Cache", waiting)
	seen := make([]int, len(logs))
	for _, keep := range keepsOf(len(waiting.Cache)) {
		for tear := range 33 {
			up, ok := comesUp(t, what, impl.CrashDisk(waiting, keep, tear))
			at := slices.IndexFunc(logs, func(g impl.Log) bool { return impl.SameLog(up, g) })
			if !ok || at < 0 {
				t.Fatalf("%s: kept %v, torn at %d: %v, %s", what, keep, tear, ok, tellLog(up))
			}
			seen[at]++
			if !slices.Contains(keep, 1) && at != 0 || !slices.Contains(keep, 0) && tear == 32 && at != len(logs)-1 {
				t.Fatalf("%s: kept %v, torn at %d: log %d comes up", what, keep, tear, at)
			}
		}
	}
	return seen
}

// waitsAtEnd has the item's frame behind the head's End, not flushed.
func waitsAtEnd(t *testing.T, d impl.Disk, head impl.Seg, x impl.Item) impl.Disk {
	t.Helper()
	out, ok := impl.SegWrite(d, head.No, head.End, itemAsSaid(x, head.Gen))
	if !ok {
		t.Fatalf("%+v does not fit", x)
	}
	return out
}

func TestRecoverLogOfAnItemThatWasNotFlushed(t *testing.T) {
	fresh, _ := impl.FormatDisk(5)
	for what, g := range map[string]impl.Log{"new": fresh, "several": checkedLog(severalLog()), "long Gens": checkedLog(logWith(6, segOf(5, 5), segOf(3, 2097152, dropItem(3, 3))))} {
		for _, r := range []impl.Rec{dropItem(0, 4).Rec, boxItem(0, 9, 1, "ann", "old").Rec, longRec(7), addItem(0, 3, 2, 1, bodyOf(40)).Rec} {
			head := g.Used[len(g.Used)-1]
			x := impl.Item{Seq: g.NextSeq, Rec: r}
			after := appended(t, g, r)
			seen := crashesInto(t, what, waitsAtEnd(t, g.Disk, head, x), g, after)
			if seen[0] == 0 || seen[1] == 0 {
				t.Errorf("%s: before comes up %d times, after %d times", what, seen[0], seen[1])
			}
		}
	}
}

// Several wait, one behind the other: those that are whole come up, up to the
// first one that is not.
func TestRecoverLogOfItemsThatWereNotFlushed(t *testing.T) {
	g, _ := impl.FormatDisk(6)
	g = appended(t, g, boxItem(0, 1, 1, "ann", "inbox").Rec)
	logs, waiting := []impl.Log{g}, g.Disk
	for _, r := range []impl.Rec{dropItem(0, 5).Rec, addItem(0, 1, 1, 0, bodyOf(30)).Rec, goneItem(0, 7, 1).Rec, flagItem(0, 1, 1, 4).Rec} {
		waiting = waitsAtEnd(t, waiting, g.Used[0], impl.Item{Seq: g.NextSeq, Rec: r})
		g = appended(t, g, r)
		logs = append(logs, g)
	}
	if seen := crashesInto(t, "several items", waiting, logs...); slices.Contains(seen, 0) {
		t.Errorf("the logs come up so often: %v", seen)
	}
}

// A new head waits, and what is in it; where the segment was in use before,
// too.
func TestRecoverLogOfASegmentThatWasNotFlushed(t *testing.T) {
	for what, lay := range map[string]string{
		"never in use": "", "in use before": segAsSaid(2, plainItems()), "long in use": segAsSaid(1, []impl.Item{addItem(2, 1, 1, 0, bodyOf(100))}),
	} {
		g := checkedLog(logWith(5, segOf(1, 3, dropItem(50, 3)), segOf(4, 6, manySeqs(16)...)))
		g.Disk = putAsSaid(g.Disk, 0, 0, lay)
		opened, _ := impl.OpenSeg(g, 0)
		waiting, _ := impl.SegWrite(g.Disk, 0, 0, frameAsSaid(segMark(7)))
		if seen := crashesInto(t, what, waiting, g, opened); seen[0] == 0 || seen[1] == 0 {
			t.Errorf("%s: the logs come up so often: %v", what, seen)
		}
		for _, r := range []impl.Rec{dropItem(0, 8).Rec, longRec(4)} {
			after := appended(t, opened, r)
			both := waitsAtEnd(t, waiting, opened.Used[2], impl.Item{Seq: g.NextSeq, Rec: r})
			if seen := crashesInto(t, what+", with an item", both, g, opened, after); slices.Contains(seen, 0) {
				t.Errorf("%s: the logs come up so often: %v", what, seen)
			}
		}
	}
}

// A check waits: the log comes up by the older one, or by the newer one.
func TestRecoverLogOfACheckThatWasNotFlushed(t *testing.T) {
	g, _ := impl.FormatDisk(7)
	g = appended(t, g, boxItem(0, 2, 1, "ann", "inbox").Rec, longRec(1), longRec(2), longRec(3), longRec(4))
	freed := copyOfLog(g)
	freed.Used = freed.Used[1:]
	for what, after := range map[string]impl.Log{"of all": g, "without the oldest one": freed} {
		c := impl.CheckOf(after)
		waiting, _ := impl.WriteBytes(g.Disk, 4*(c.Stamp%2), 0, checkAsSaid(c))
		stamps := map[int]int{}
		for _, keep := range keepsOf(len(waiting.Cache)) {
			for tear := range 33 {
				up, ok := comesUp(t, what, impl.CrashDisk(waiting, keep, tear))
				want := g
				if up.Stamp == 2 {
					want = after
				}
				if !ok || !impl.SameLog(up, want) {
					t.Fatalf("%s: kept %v, torn at %d: %v, %s", what, keep, tear, ok, tellLog(up))
				}
				stamps[up.Stamp]++
			}
		}
		if stamps[1] == 0 || stamps[2] == 0 || len(stamps) != 2 {
			t.Errorf("%s: the Stamps come up so often: %v", what, stamps)
		}
	}
}

// A Ref counts when its segment has its Gen.
func TestRecoverLogOfARefOfAnotherGen(t *testing.T) {
	base := checkedLog(severalLog())
	others := slices.Concat(base.Used[:1], base.Used[2:])
	for what, c := range map[string]struct {
		lay  string
		want []impl.Seg
	}{
		"its own":                    {"", base.Used},
		"one less":                   {segAsSaid(4, nil), others},
		"one more":                   {segAsSaid(6, nil), others},
		"just below NextGen":         {segAsSaid(11, []impl.Item{dropItem(9, 9)}), others},
		"another Ref's":              {segAsSaid(9, nil), others},
		"none":                       {filled(0), others},
		"a mark that is torn":        {segAsSaid(5, nil)[:9] + "\x00", others},
		"NextGen":                    {segAsSaid(12, []impl.Item{dropItem(9, 3)}), append(slices.Clone(others), segOf(0, 12, dropItem(9, 3)))},
		"far above NextGen":          {segAsSaid(5000, nil), append(slices.Clone(others), segOf(0, 5000))},
		"its own, with another Seq":  {frameAsSaid(impl.Frame{Gen: 5, Seq: 3, Body: "seg"}), base.Used},
		"its own, with items behind": {segAsSaid(5, plainItems()[4:]), []impl.Seg{base.Used[0], segOf(0, 5, plainItems()[4:]...), base.Used[2]}},
	} {
		want := copyOfLog(base)
		want.Disk, want.Used = putAsSaid(base.Disk, 0, 0, c.lay), c.want
		want.NextGen = max(12, c.want[len(c.want)-1].Gen+1)
		comesUpAs(t, "a Ref's segment has a Gen that is "+what, want.Disk, want)
	}
}

// A segment without a Ref counts when its Gen was not given ahead of the check.
func TestRecoverLogOfSegmentsWithoutARef(t *testing.T) {
	base := checkedLog(severalLog())
	x := dropItem(50, 60)
	for _, no := range []int{1, 2, 3, 5} {
		for gen, counts := range map[int]bool{
			1: false, 2: false, 3: false, 4: false, 5: false, 9: false, 10: false, 11: false, 12: true, 13: true, 14: true, 127: true, 128: true, impl.MaxNumber - 1: true,
		} {
			want := copyOfLog(base)
			want.Disk = putAsSaid(base.Disk, no, 0, segAsSaid(gen, []impl.Item{x}))
			if counts {
				want.Used = append(want.Used, segOf(no, gen, x))
				want.NextGen, want.NextSeq, want.NextValid = gen+1, 51, 61
			}
			comesUpAs(t, fmt.Sprint("segment ", no, " of Gen ", gen), want.Disk, want)
		}
		comesUpNot(t, "a Gen that has none above it", putAsSaid(base.Disk, no, 0, segAsSaid(impl.MaxNumber, nil)))
	}
	free := putAsSaid(putAsSaid(base.Disk, 1, 0, segAsSaid(11, []impl.Item{dropItem(1, 9)})), 3, 0, segAsSaid(9, []impl.Item{dropItem(2, 9)}))
	want := copyOfLog(base)
	want.Disk = free
	comesUpAs(t, "what is not right with others lies in free segments", free, want)
}

// Used stand by their Gens, wherever they lie.
func TestRecoverLogOfSegmentsInAnyOrder(t *testing.T) {
	nos := []int{0, 1, 2, 3, 4, 5, 6}
	for turn := range 7 {
		for _, step := range []int{1, 2, 3, 4, 5, 6} {
			used := []impl.Seg{}
			for i := range nos {
				used = append(used, segOf((turn+step*i)%7, 10+3*i, dropItem(20-i, 30-i)))
			}
			g := logWith(7, used...)
			for fixed := 1; fixed <= 7; fixed++ {
				want := copyOfLog(g)
				c := checkOfAsSaid(impl.Log{Stamp: 4, Used: used[:fixed], NextGen: used[fixed-1].Gen + 1, NextSeq: 1, NextValid: 1})
				want.Disk, want.Stamp = checkedWith(g.Disk, c), 5
				comesUpAs(t, fmt.Sprint(fixed, " of them fixed"), want.Disk, want)
			}
		}
	}
}

// No two have one Gen: where two are taken for one, none comes up.
func TestRecoverLogOfTwoOfOneGen(t *testing.T) {
	base := checkedLog(severalLog())
	for _, gen := range []int{12, 13, 500} {
		d := putAsSaid(putAsSaid(base.Disk, 1, 0, segAsSaid(gen, nil)), 5, 0, segAsSaid(gen, nil))
		comesUpNot(t, "two that were opened", d)
	}
	for _, gen := range []int{3, 5, 9} {
		want := copyOfLog(base)
		want.Disk = putAsSaid(base.Disk, 1, 0, segAsSaid(gen, nil))
		comesUpAs(t, "a free one of a Ref's Gen", want.Disk, want)
	}
	d := checkedWith(unlikeDisk(sectorsOf(7)), plainCheck(7))
	comesUpNot(t, "no segment at all", d)
	comesUpNot(t, "a segment of no Ref", putAsSaid(d, 1, 0, segAsSaid(5, nil)))
	got, ok := comesUp(t, "one that was opened alone", putAsSaid(d, 1, 0, segAsSaid(300, nil)))
	if !ok || len(got.Used) != 1 || !sameSeg(got.Used[0], segOf(1, 300)) || got.NextGen != 301 || got.NextSeq != 40 || got.NextValid != 8 || got.Stamp != 7 {
		t.Errorf("one that was opened alone: %v, %s", ok, tellLog(got))
	}
}

// What is given next is the check's, or above all that was given.
func TestRecoverLogTellsTheNextNumbers(t *testing.T) {
	check := impl.Check{Stamp: 9, NextGen: 20, NextSeq: 40, NextValid: 8, Refs: []impl.Ref{{No: 3, Gen: 10}, {No: 1, Gen: 15}}}
	for _, c := range []struct{ seq, valid, nextSeq, nextValid int }{
		{1, 1, 40, 8}, {38, 6, 40, 8}, {39, 7, 40, 8}, {40, 7, 41, 8}, {39, 8, 40, 9}, {40, 8, 41, 9}, {41, 9, 42, 10},
		{41, 1, 42, 8}, {1, 9, 40, 10}, {127, 128, 128, 129}, {impl.MaxNumber - 1, impl.MaxValid, impl.MaxNumber, impl.MaxValid + 1},
	} {
		for what, used := range map[string][]impl.Seg{
			"in the oldest one": {segOf(3, 10, dropItem(c.seq, c.valid)), segOf(1, 15)},
			"in the last Ref's": {segOf(3, 10), segOf(1, 15, dropItem(c.seq, c.valid))},
			"in the new head":   {segOf(3, 10), segOf(1, 15), segOf(0, 20, dropItem(c.seq, c.valid))},
			"apart":             {segOf(3, 10, dropItem(c.seq, 1)), segOf(1, 15), segOf(0, 22, dropItem(2, c.valid))},
			"not the last item": {segOf(3, 10, dropItem(2, 1), dropItem(c.seq, c.valid), dropItem(3, 2)), segOf(1, 15, dropItem(4, 1))},
		} {
			g := logWith(6, used...)
			g.Disk = checkedWith(g.Disk, check)
			g.NextGen, g.NextSeq, g.NextValid, g.Stamp = max(20, g.NextGen), c.nextSeq, c.nextValid, 9
			comesUpAs(t, fmt.Sprintf("%s, Seq %d, Valid %d", what, c.seq, c.valid), g.Disk, g)
		}
	}
	g := logWith(6, segOf(3, 10), segOf(1, 15), segOf(0, 14, dropItem(100, 100)))
	g.Disk, g.Used = checkedWith(g.Disk, check), g.Used[:2]
	g.NextGen, g.NextSeq, g.NextValid, g.Stamp = 20, 40, 8, 9
	comesUpAs(t, "in a segment that does not count", g.Disk, g)
}

func TestRecoverLogOfTheGreatestNumbers(t *testing.T) {
	top := impl.MaxNumber
	greatest := impl.Check{Stamp: top, NextGen: top, NextSeq: top, NextValid: top, Refs: []impl.Ref{{No: 2, Gen: top - 1}}}
	g := logWith(5, segOf(2, top-1, dropItem(top-1, impl.MaxValid)))
	g.Disk = checkedWith(g.Disk, greatest)
	g.NextGen, g.NextSeq, g.NextValid, g.Stamp = top, top, top, top
	comesUpAs(t, "the greatest", g.Disk, g)
	comesUpNot(t, "a Gen of MaxNumber", putAsSaid(g.Disk, 0, 0, segAsSaid(top, nil)))
	for _, check := range []impl.Check{greatest, leastCheck(1)} {
		for what, s := range map[string]impl.Seg{"in a Ref's": segOf(0, 1, dropItem(top, 3)), "in a new head": segOf(0, top-1, dropItem(top, 3))} {
			check.Refs = []impl.Ref{{No: 0, Gen: 1}}
			comesUpNot(t, "a Seq of MaxNumber "+what, checkedWith(logWith(5, s).Disk, check))
		}
	}
	g = logWith(5, segOf(0, 1, dropItem(top-1, 3)))
	g.Disk = checkedWith(g.Disk, leastCheck(1))
	comesUpAs(t, "a Seq just below it", g.Disk, g)
}

// Of the checks in both regions the newer one tells.
func TestRecoverLogByTheNewerCheck(t *testing.T) {
	g := logWith(6, segOf(3, 10, dropItem(1, 1)), segOf(1, 15, dropItem(5, 2)), segOf(0, 20, dropItem(9, 3)))
	check := func(stamp int, refs ...impl.Ref) string {
		return checkAsSaid(impl.Check{Stamp: stamp, NextGen: 30 + stamp, NextSeq: 40 + stamp, NextValid: 50 + stamp, Refs: refs})
	}
	three, one, zero := impl.Ref{No: 3, Gen: 10}, impl.Ref{No: 1, Gen: 15}, impl.Ref{No: 0, Gen: 20}
	for what, c := range map[string]struct {
		first, second string
		stamp         int
		used          []impl.Seg
	}{
		"in the first":                  {check(8, three, one), "", 8, g.Used[:2]},
		"in the second":                 {"", check(7, one, zero), 7, g.Used[1:]},
		"newer in the first":            {check(8, three, one, zero), check(7, one), 8, g.Used},
		"newer in the second":           {check(8, three, one, zero), check(9, one), 9, g.Used[1:2]},
		"newer in the second, torn":     {check(8, three, one), check(9, zero)[:10] + "\x00", 8, g.Used[:2]},
		"newer in the first, torn":      {check(8, three, one)[:11] + "\xff", check(7, zero), 7, g.Used[2:]},
		"not in its own":                {check(7, zero), "", 7, g.Used[2:]},
		"newer, and its Refs are fewer": {check(10, zero), check(9, three, one, zero), 10, g.Used[2:]},
		"of one Stamp":                  {check(8, three), check(8, zero), 8, g.Used[:1]},
	} {
		want := copyOfLog(g)
		want.Disk = putFrom(putFrom(g.Disk, 0, c.first), 128, c.second)
		want.Used, want.Stamp = c.used, c.stamp
		want.NextGen, want.NextSeq, want.NextValid = 30+c.stamp, 40+c.stamp, 50+c.stamp
		comesUpAs(t, what, want.Disk, want)
	}
	wrong := checkAsSaid(impl.Check{Stamp: 9, NextGen: 30, NextSeq: 1, NextValid: 1})
	want := copyOfLog(g)
	want.Disk = putFrom(putFrom(g.Disk, 0, check(8, three, zero)), 128, wrong)
	want.Used, want.Stamp, want.NextGen, want.NextSeq, want.NextValid = []impl.Seg{g.Used[0], g.Used[2]}, 8, 38, 48, 58
	comesUpAs(t, "newer in the second, not right", want.Disk, want)
	// None that is right can tell of nothing that is there.
	comesUpNot(t, "the newer one's segments are not there", putFrom(putFrom(g.Disk, 0, check(8, three)), 128, check(9, impl.Ref{No: 3, Gen: 11})))
}

// A right frame that is no item's is left out; the log would not be right.
func TestRecoverLogOfAFrameThatIsNoItem(t *testing.T) {
	base := checkedLog(severalLog())
	for what, body := range noItems() {
		if len(body) > 100 {
			continue
		}
		for i, s := range base.Used {
			d := putAsSaid(base.Disk, s.No, s.End, frameAsSaid(impl.Frame{Gen: s.Gen, Seq: 2, Body: body}))
			comesUpNot(t, fmt.Sprint(what, " at ", i), d)
			d = putAsSaid(base.Disk, s.No, s.End, frameAsSaid(impl.Frame{Gen: s.Gen + 1, Seq: 2, Body: body}))
			want := copyOfLog(base)
			want.Disk = d
			comesUpAs(t, fmt.Sprint(what, ", of another Gen, at ", i), d, want)
		}
		first := frameAsSaid(segMark(12)) + frameAsSaid(impl.Frame{Gen: 12, Seq: 2, Body: body})
		comesUpNot(t, what+" in a new head", putAsSaid(base.Disk, 2, 0, first))
		want := copyOfLog(base)
		want.Disk = putAsSaid(base.Disk, 2, 0, strings.ReplaceAll(first, frameAsSaid(segMark(12)), frameAsSaid(segMark(11))))
		comesUpAs(t, what+" in a free one", want.Disk, want)
	}
}

// The first and the last segment of a disk count like others; what lies behind
// the last one, or is no whole segment, is none.
func TestRecoverLogOfTheFirstAndTheLastSegment(t *testing.T) {
	for segs := impl.MinSegs; segs <= impl.MaxSegs; segs++ {
		for more := range min(8, impl.MaxSectors-sectorsOf(segs)+1) {
			d := unlikeDisk(sectorsOf(segs) + more)
			last := segs - 1
			for what, used := range map[string][]impl.Seg{
				"both, the first one older": {segOf(0, 4, dropItem(3, 3)), segOf(last, 6, dropItem(5, 3))},
				"both, the last one older":  {segOf(last, 4, dropItem(3, 3)), segOf(0, 6, dropItem(5, 3))},
				"the first alone":           {segOf(0, 4)}, "the last alone": {segOf(last, 4)},
			} {
				g := checkedLog(logOn(d, used...))
				comesUpAs(t, what, g.Disk, g)
				c := impl.Check{Stamp: 1, NextGen: 4, NextSeq: 1, NextValid: 1, Refs: []impl.Ref{{No: 1, Gen: 2}}}
				g.Disk = checkedWith(g.Disk, c)
				comesUpAs(t, what+", behind the check", g.Disk, g)
			}
			g := logOn(d, segOf(1, 4))
			if more > 0 {
				g.Disk = putFrom(g.Disk, sectorsOf(segs)*32, segAsSaid(9, nil))
			}
			for no := segs; no < impl.MaxSegs; no++ {
				c := impl.Check{Stamp: 3, NextGen: 5, NextSeq: 1, NextValid: 1, Refs: []impl.Ref{{No: 1, Gen: 4}}}
				want := g
				want.Disk, want.Stamp = checkedWith(g.Disk, c), 3
				comesUpAs(t, "something that is no whole segment", want.Disk, want)
				c.NextGen, c.Refs = 10, append(c.Refs, impl.Ref{No: no, Gen: 9})
				want.Disk, want.NextGen = checkedWith(g.Disk, c), 10
				comesUpAs(t, "a Ref of it", want.Disk, want)
				c.Refs = c.Refs[1:]
				comesUpNot(t, "a Ref of it alone", checkedWith(g.Disk, c))
			}
		}
	}
}

func turnedDisk(turn func(d *impl.Disk)) impl.Disk {
	d := checkedLog(severalLog()).Disk
	turn(&d)
	return d
}

func TestRecoverLogRefusesWrongDisks(t *testing.T) {
	g := checkedLog(severalLog())
	comesUpAs(t, "nothing is wrong", g.Disk, g)
	comesUpNot(t, "nothing", impl.Disk{})
	for at := range g.Disk.Sectors {
		for _, text := range []string{"", g.Disk.Sectors[at][1:], g.Disk.Sectors[at][:31], g.Disk.Sectors[at] + "\x00", filled(0) + filled(0)} {
			comesUpNot(t, fmt.Sprint("sector ", at, " has ", len(text), " bytes"), turnedDisk(func(d *impl.Disk) { d.Sectors[at] = text }))
		}
		comesUpNot(t, "a write that turns nothing", turnedDisk(func(d *impl.Disk) { d.Cache = []impl.Write{{At: at, Text: d.Sectors[at]}} }))
		comesUpNot(t, "a write that waits", turnedDisk(func(d *impl.Disk) { d.Cache = []impl.Write{{At: at, Text: filled('w')}} }))
	}
	for what, w := range map[string]impl.Write{
		"too short": {At: 3, Text: "w"}, "nothing": {}, "too long": {At: 3, Text: filled('w') + "w"}, "behind the last": {At: 64, Text: filled('w')},
		"below 0": {At: -1, Text: filled('w')}, "far off": {At: math.MaxInt, Text: filled('w')},
	} {
		comesUpNot(t, "a write: "+what, turnedDisk(func(d *impl.Disk) { d.Cache = []impl.Write{w} }))
	}
	comesUpNot(t, "a full Cache", turnedDisk(func(d *impl.Disk) { d.Cache = cacheOf(impl.MaxCache, 7) }))
	comesUpNot(t, "a Cache that is too full", turnedDisk(func(d *impl.Disk) { d.Cache = cacheOf(impl.MaxCache+1, 7) }))
	empty := turnedDisk(func(d *impl.Disk) { d.Cache = []impl.Write{} })
	comesUpAs(t, "an empty Cache that is not nil", empty, g)
	for what, d := range wrongCheckDisks() {
		comesUpNot(t, what, d)
	}
	for what, d := range rightDisks() {
		comesUpNot(t, what, d)
	}
}

// A log needs MinSegs to MaxSegs segments, and MaxSectors at most.
func TestRecoverLogOfEachNumberOfSectors(t *testing.T) {
	for n := 16; n <= 130; n++ {
		g := logOn(unlikeDisk(n), segOf(0, 4, dropItem(3, 3)))
		g.Disk = checkedWith(g.Disk, impl.Check{Stamp: 1, NextGen: 5, NextSeq: 4, NextValid: 4, Refs: []impl.Ref{{No: 0, Gen: 4}}})
		if n >= 48 && n <= 100 {
			comesUpAs(t, fmt.Sprint(n, " sectors"), g.Disk, g)
			continue
		}
		comesUpNot(t, fmt.Sprint(n, " sectors"), g.Disk)
	}
	whole := checkedLog(severalLog()).Disk
	for n := range len(whole.Sectors) {
		cut := impl.Disk{Sectors: whole.Sectors[:n]}
		up, ok := comesUp(t, "cut", cut)
		if ok != (n >= 48) || ok && (up.Segs != (n-8)/8 || len(up.Used) != 2) {
			t.Errorf("of a disk cut to %d sectors comes up %v, %s", n, ok, tellLog(up))
		}
	}
}

func TestRecoverLogWithoutACheck(t *testing.T) {
	for what, g := range rightLogs() {
		comesUpNot(t, what, g.Disk)
	}
	base := checkedLog(severalLog())
	text := checkAsSaid(impl.Check{Stamp: 2, NextGen: 12, NextSeq: 40, NextValid: 8, Refs: checkOfAsSaid(base).Refs})
	for i := range len(text) {
		comesUpNot(t, "a byte turned", putFrom(base.Disk, i, string([]byte{text[i] ^ 1})))
		comesUpNot(t, "cut", putFrom(base.Disk, i, strings.Repeat("\x55", 128-i)))
	}
	comesUpNot(t, "a byte further on", putFrom(base.Disk, 0, "\x00"+text))
	comesUpNot(t, "noughts", putFrom(base.Disk, 0, strings.Repeat("\x00", 256)))
	for what, c := range wrongChecks() {
		if slices.Min(checkNumbers(c)) >= 0 && len(checkAsSaid(c)) <= 128 {
			comesUpNot(t, what, putFrom(base.Disk, 0, checkAsSaid(c)+"\x00"))
		}
	}
	d, _ := impl.DiskNew(sectorsOf(7))
	comesUpNot(t, "a disk of noughts", d)
	elsewhere := putAsSaid(severalLog().Disk, 5, 0, text)
	comesUpNot(t, "in a segment", elsewhere)
}

// What is on the disk is a log that is not right.
func TestRecoverLogOfItemsThatDoNotGoTogether(t *testing.T) {
	for what, c := range map[string]struct {
		used  []impl.Seg
		right bool
	}{
		"two of one Seq, in one segment":           {[]impl.Seg{segOf(0, 2, dropItem(8, 3), dropItem(8, 4))}, false},
		"two of one Seq, in two segments":          {[]impl.Seg{segOf(0, 2, dropItem(8, 3)), segOf(1, 4, plainItems()...), segOf(2, 5, goneItem(8, 3, 1))}, false},
		"two of one Seq, one behind the check":     {[]impl.Seg{segOf(0, 2, dropItem(8, 3)), segOf(1, 40, dropItem(8, 4))}, false},
		"two of one Seq, both behind the check":    {[]impl.Seg{segOf(0, 2), segOf(2, 40, dropItem(8, 3)), segOf(1, 41, dropItem(8, 4))}, false},
		"the same twice, in one segment":           {[]impl.Seg{segOf(0, 2, dropItem(8, 3), dropItem(8, 3))}, true},
		"the same twice, in two segments":          {[]impl.Seg{segOf(0, 2, dropItem(8, 3)), segOf(4, 5, dropItem(8, 3))}, true},
		"the same twice, one behind the check":     {[]impl.Seg{segOf(0, 2, dropItem(8, 3)), segOf(1, 40, dropItem(8, 3))}, true},
		"two that differ in a text":                {[]impl.Seg{segOf(0, 2, addItem(8, 3, 1, 0, "a")), segOf(1, 3, addItem(8, 3, 1, 0, "b"))}, false},
		"two that differ in their Flags":           {[]impl.Seg{segOf(0, 2, flagItem(8, 3, 1, 0)), segOf(1, 3, flagItem(8, 3, 1, 1))}, false},
		"records that tell of what is not there":   {[]impl.Seg{segOf(0, 2, flagItem(8, 3, 1, 0), goneItem(9, 4, 1)), segOf(1, 3, dropItem(10, 7))}, true},
		"two boxes of one name, as records may be": {[]impl.Seg{segOf(0, 2, boxItem(8, 3, 1, "ann", "old"), boxItem(9, 4, 1, "ann", "old"))}, true},
	} {
		g := logWith(5, c.used...)
		check := checkOfAsSaid(g)
		check.Stamp = 1
		if i := slices.IndexFunc(check.Refs, func(r impl.Ref) bool { return r.Gen >= 40 }); i >= 0 {
			check.Refs, check.NextGen = check.Refs[:i], 40
		}
		g.Disk = checkedWith(g.Disk, check)
		if c.right {
			comesUpAs(t, what, g.Disk, g)
			continue
		}
		comesUpNot(t, what, g.Disk)
	}
	free := logWith(5, segOf(0, 2, dropItem(8, 3)), segOf(1, 1, dropItem(8, 4)))
	free.Used, free.NextSeq, free.NextValid = free.Used[:1], 9, 4
	free = checkedLog(free)
	comesUpAs(t, "another one of that Seq in a free segment", free.Disk, free)
}

// As many items as can lie on a disk are not too many.
func TestRecoverLogOfTheFullest(t *testing.T) {
	for segs := impl.MinSegs; segs <= impl.MaxSegs; segs++ {
		g := checkedLog(fullestLog(segs))
		comesUpAs(t, "the fullest", g.Disk, g)
		behind := fullestLog(segs)
		behind.Disk = checkedWith(behind.Disk, impl.Check{Stamp: 1, NextGen: 2, NextSeq: 1, NextValid: 1, Refs: []impl.Ref{{No: segs - 1, Gen: 1}}})
		comesUpAs(t, "the fullest, all but one segment behind the check", behind.Disk, behind)
	}
}

// Where what lay behind an item that is appended has the sum of another one,
// that one is read, too: the log that comes up has it.
func TestRecoverLogOfWhatIsAnotherOnes(t *testing.T) {
	x, y := dropItem(20, 3), dropItem(21, 9)
	g := checkedLog(withBehind(len(itemAsSaid(x, 6)), itemAsSaid(y, 6)))
	comesUpAs(t, "before", g.Disk, g)
	after, _ := impl.AppendItem(g, x, 0)
	up, ok := comesUp(t, "after", after.Disk)
	if !ok || impl.SameLog(up, after) || !slices.Equal(up.Used[0].Items, append(plainItems(), x, y)) || up.NextSeq != 22 || up.NextValid != 10 {
		t.Errorf("%v, %s", ok, tellLog(up))
	}
	g = checkedLog(withBehind(len(itemAsSaid(x, 6)), itemAsSaid(dropItem(20, 9), 6)))
	after, _ = impl.AppendItem(g, x, 0)
	comesUpNot(t, "another one of its Seq", after.Disk)
	g = checkedLog(withBehind(len(itemAsSaid(x, 6)), frameAsSaid(segMark(6))))
	after, _ = impl.AppendItem(g, x, 0)
	comesUpNot(t, "what is no item", after.Disk)
}

// fixNow fixes the log, and lets go of its oldest segment first, if so.
func fixNow(t *testing.T, g impl.Log, letGo bool) impl.Log {
	t.Helper()
	g = copyOfLog(g)
	if letGo && len(g.Used) > 1 {
		g.Used = g.Used[1:]
	}
	return fixLog(t, "a drawn life", g)
}

// Promise 11, in drawn lives, which go on with what came up.
func TestALogComesUpAsItWas(t *testing.T) {
	for seed := range 14 {
		d := drawing(100 + seed)
		g, _ := impl.FormatDisk(impl.MinSegs + seed%7)
		if seed%2 == 1 {
			g = checkedLog(logOn(unlikeDisk(len(g.Disk.Sectors)+seed%4), segOf(seed%5, d.of(1, 100, 127, 16380, 2097140))))
		}
		opened := 0
		for range 120 {
			switch d.below(12) {
			case 0:
				g = fixNow(t, g, false)
			case 1, 2:
				g = fixNow(t, g, true)
			case 3:
				g, _ = impl.OpenSeg(g, d.of(0, 1, 2))
			case 4:
				g, _ = impl.RecoverLog(g.Disk)
			default:
				g, _ = impl.AppendItem(g, drawnItem(&d, g), d.of(0, 0, 1, 2))
			}
			if c, _ := impl.NewestCheck(g.Disk); g.NextGen > c.NextGen {
				opened++
			}
			comesUpAs(t, "a drawn life", g.Disk, g)
			if t.Failed() {
				t.Fatalf("seed %d", seed)
			}
		}
		if g.NextGen < 4 || opened < 5 {
			t.Errorf("seed %d: nothing came about: %s, %d times opened behind the check", seed, tellLog(g), opened)
		}
	}
}

// drawnLogDisk has segments of few Gens, and checks that tell of some of them.
func drawnLogDisk(d *drawing) impl.Disk {
	segs := d.of(5, 5, 6, 7, 11)
	disk := unlikeDisk(sectorsOf(segs) + d.of(0, 0, 1, 4))
	refs := []impl.Ref{}
	for no := range segs {
		gen := d.of(1, 2, 3, 4, 5, 6, 7, 8, 9, 10, 11, 12, 13, 14) + 14*(no%2)
		items := []impl.Item{}
		for range d.below(4) {
			n := 1 + d.below(60)
			items = append(items, dropItem(n, 1+(n+d.of(0, 0, 0, 0, 0, 0, 0, 0, 0, 0, 0, 1))%60))
		}
		if d.below(4) > 0 {
			disk = putAsSaid(disk, no, 0, segAsSaid(gen, items))
		}
		if d.below(3) > 0 && !slices.ContainsFunc(refs, func(r impl.Ref) bool { return r.Gen == gen }) {
			refs = append(refs, impl.Ref{No: no, Gen: gen})
		}
	}
	slices.SortFunc(refs, func(a, b impl.Ref) int { return cmp.Compare(a.Gen, b.Gen) })
	for range d.of(0, 1, 1, 1, 2, 2) {
		some := refs[:d.below(len(refs)+1)]
		c := impl.Check{Stamp: d.of(1, 2, 3, 4), NextSeq: d.of(1, 30, 61), NextValid: d.of(1, 30, 61), NextGen: 1, Refs: some}
		if len(some) > 0 {
			c.NextGen = some[len(some)-1].Gen + d.of(0, 1, 1, 1, 2, 3, 10)
		}
		disk = checkedWith(disk, c)
	}
	return disk
}

func TestRecoverLogOfDrawnDisks(t *testing.T) {
	d, up := drawing(29), 0
	for range 3000 {
		disk := drawnLogDisk(&d)
		if _, ok := comesUp(t, "a drawn disk", disk); ok {
			up++
		}
		for no := range impl.MaxSegs {
			segIs(t, "a drawn disk", disk, segOfAsSaid(disk, no))
		}
		if t.Failed() {
			t.FailNow()
		}
	}
	if up < 500 || up > 2500 {
		t.Errorf("of 3000 disks %d have a log that comes up", up)
	}
}

// areSame and arePart ask both ways round.
func areSame(t *testing.T, what string, a, b impl.Log) {
	t.Helper()
	if !impl.SameLog(a, b) || !impl.SameLog(b, a) || !sameLogAsSaid(a, b) {
		t.Errorf("%s: not the same: %s and %s", what, tellLog(a), tellLog(b))
	}
}

func arePart(t *testing.T, what string, a, b impl.Log) {
	t.Helper()
	if impl.SameLog(a, b) || impl.SameLog(b, a) || sameLogAsSaid(a, b) {
		t.Errorf("%s: the same: %s and %s", what, tellLog(a), tellLog(b))
	}
}

func TestSameLogOfLogsThatAreTheSame(t *testing.T) {
	for _, logs := range []map[string]impl.Log{rightLogs(), wrongLogs()} {
		for what, g := range logs {
			areSame(t, what, g, g)
			areSame(t, what, g, copyOfLog(g))
		}
	}
	areSame(t, "nothing", impl.Log{}, impl.Log{})
	areSame(t, "nil and empty", impl.Log{}, impl.Log{Used: []impl.Seg{}})
	areSame(t, "nil and empty Items", turned(func(g *impl.Log) { g.Used[1].Items = nil }), turned(func(g *impl.Log) { g.Used[1].Items = []impl.Item{} }))
}

// SameLog asks for nothing that its sentence does not name.
func TestSameLogPassesOver(t *testing.T) {
	for what, turn := range map[string]func(g *impl.Log){
		"Stamp": func(g *impl.Log) { g.Stamp++ }, "Stamp 0": func(g *impl.Log) { g.Stamp = 0 }, "Stamp below 0": func(g *impl.Log) { g.Stamp = math.MinInt },
		"Segs": func(g *impl.Log) { g.Segs-- }, "Segs 0": func(g *impl.Log) { g.Segs = 0 }, "Segs far off": func(g *impl.Log) { g.Segs = math.MaxInt },
		"no disk": func(g *impl.Log) { g.Disk = impl.Disk{} }, "a sector more": func(g *impl.Log) { g.Disk.Sectors = append(g.Disk.Sectors, filled(1)) },
		"a sector that is turned": func(g *impl.Log) { g.Disk.Sectors[40] = filled('x') }, "a sector that is not right": func(g *impl.Log) { g.Disk.Sectors[0] = "" },
		"a write that waits": func(g *impl.Log) { g.Disk.Cache = cacheOf(3, 9) },
		"all of these":       func(g *impl.Log) { g.Stamp, g.Segs, g.Disk = 77, -3, unlikeDisk(2) },
	} {
		areSame(t, what, severalLog(), turned(turn))
	}
}

func TestSameLogOfLogsThatPart(t *testing.T) {
	turns := map[string]func(g *impl.Log){
		"NextGen": func(g *impl.Log) { g.NextGen++ }, "NextSeq": func(g *impl.Log) { g.NextSeq-- }, "NextValid": func(g *impl.Log) { g.NextValid++ },
		"NextGen wrapped": func(g *impl.Log) { g.NextGen += 1 << 32 }, "NextSeq wrapped": func(g *impl.Log) { g.NextSeq += 1 << 32 }, "NextValid wrapped": func(g *impl.Log) { g.NextValid += 1 << 32 },
		"two numbers that are another's": func(g *impl.Log) { g.NextGen, g.NextSeq = g.NextSeq, g.NextGen },
		"no Used":                        func(g *impl.Log) { g.Used = nil }, "the first one less": func(g *impl.Log) { g.Used = g.Used[1:] }, "the last one less": func(g *impl.Log) { g.Used = g.Used[:2] },
		"the middle one less": func(g *impl.Log) { g.Used = slices.Delete(g.Used, 1, 2) }, "one more": func(g *impl.Log) { g.Used = append(g.Used, impl.Seg{}) },
		"one twice": func(g *impl.Log) { g.Used = append(g.Used, g.Used[2]) }, "another order": func(g *impl.Log) { slices.Reverse(g.Used) },
	}
	for i := range 3 {
		for name, field := range map[string]func(s *impl.Seg) *int{
			"No": func(s *impl.Seg) *int { return &s.No }, "Gen": func(s *impl.Seg) *int { return &s.Gen }, "End": func(s *impl.Seg) *int { return &s.End },
		} {
			turns[fmt.Sprint(name, " of ", i)] = func(g *impl.Log) { *field(&g.Used[i])++ }
			turns[fmt.Sprint(name, " of ", i, " below 0")] = func(g *impl.Log) { *field(&g.Used[i]) = -1 }
		}
		turns[fmt.Sprint("an item more of ", i)] = func(g *impl.Log) { g.Used[i].Items = append(g.Used[i].Items, dropItem(50, 1)) }
		turns[fmt.Sprint("an item of nothing more of ", i)] = func(g *impl.Log) { g.Used[i].Items = append(g.Used[i].Items, impl.Item{}) }
	}
	for what, turn := range turns {
		arePart(t, what, severalLog(), turned(turn))
	}
	// These have each item, or each field of one, as another one.
	for what, g := range wrongItemLogs() {
		if !sameLogAsSaid(g, severalLog()) {
			arePart(t, what, severalLog(), g)
		}
	}
	for _, at := range []int{0, 2} {
		for k := range 3 {
			for field, turn := range map[string]func(x *impl.Item){
				"Seq": func(x *impl.Item) { x.Seq++ }, "Kind": func(x *impl.Item) { x.Rec.Kind++ }, "Valid": func(x *impl.Item) { x.Rec.Valid++ }, "Uid": func(x *impl.Item) { x.Rec.Uid++ },
				"Next": func(x *impl.Item) { x.Rec.Next++ }, "Flags": func(x *impl.Item) { x.Rec.Flags++ }, "User": func(x *impl.Item) { x.Rec.User += "x" },
				"Name": func(x *impl.Item) { x.Rec.Name += "x" }, "Text": func(x *impl.Item) { x.Rec.Text += "\x00" },
			} {
				arePart(t, fmt.Sprint(field, " of item ", k, " of ", at), severalLog(), turned(func(g *impl.Log) { turn(&g.Used[at].Items[k]) }))
			}
		}
	}
}

// A life that goes on is not the same any more, but for its Stamp.
func TestSameLogOfALifeThatGoesOn(t *testing.T) {
	g, _ := impl.FormatDisk(5)
	fixed := fixLog(t, "fixed", g)
	areSame(t, "fixed", g, fixed)
	more := appended(t, g, dropItem(0, 1).Rec)
	arePart(t, "appended", g, more)
	opened, _ := impl.OpenSeg(g, 0)
	arePart(t, "opened", g, opened)
	other, _ := impl.FormatDisk(11)
	areSame(t, "a longer disk", g, other)
}

func TestNoDiskIsWrittenOnByComingUp(t *testing.T) {
	disks := map[string]impl.Disk{
		"several": checkedLog(severalLog()).Disk, "great": checkedLog(greatLog()).Disk, "full": checkedLog(fullestLog(6)).Disk,
		"no check": severalLog().Disk, "not right": wrongItemLogs()["two of one Seq, in two segments"].Disk,
		"waiting": turnedDisk(func(d *impl.Disk) { d.Cache = cacheOf(5, 9) }), "wrong": turnedDisk(func(d *impl.Disk) { d.Sectors[3] = "short" }), "nothing": {},
	}
	for what, plain := range disks {
		d := roomyLog(impl.Log{Disk: plain}).Disk
		before := ofDisk(fully(d))
		first, ok := impl.RecoverLog(d)
		second, again := impl.RecoverLog(d)
		third, _ := impl.RecoverLog(d)
		if ok != again || !alikeLogs(first, second) {
			t.Errorf("%s: another log comes up the next time", what)
		}
		texts := slices.Concat(textsOfDisk(d), textsOfLog(first), textsOfLog(second))
		for no := -1; no <= impl.MaxSegs; no++ {
			s, other := impl.SegOf(d, no), impl.SegOf(d, no)
			texts = slices.Concat(texts, textsOfRecs(recsOf(s.Items)), textsOfRecs(recsOf(other.Items)))
			scribbleOver(s.Items, dropItem(66, 66))
			if !sameSeg(other, segOfAsSaid(plain, no)) {
				t.Errorf("%s: two segments %d share memory", what, no)
			}
		}
		noneOfManyShared(t, what, texts)
		listsOfTheirOwn(t, what, third)
		scribbleLog(first)
		if want, _ := recoverAsSaid(plain); !alikeLogs(second, want) {
			t.Errorf("%s: two logs that come up share memory", what)
		}
		if !sameDisk(fully(d), before) || !sameDisk(d, plain) {
			t.Errorf("%s: the disk handed in is written on", what)
		}
	}
}

func TestNoLogIsWrittenOnBySameLog(t *testing.T) {
	for what, plain := range map[string]impl.Log{"several": severalLog(), "nothing": {}, "full": fullestLog(5), "wrong": turned(func(g *impl.Log) { slices.Reverse(g.Used) })} {
		a, b := roomyLog(plain), roomyLog(plain)
		first, second := fullLog(a), fullLog(b)
		impl.SameLog(a, b)
		impl.SameLog(a, impl.Log{})
		if !alikeLogs(fullLog(a), first) || !alikeLogs(fullLog(b), second) {
			t.Errorf("%s: a log handed in is written on", what)
		}
	}
}
