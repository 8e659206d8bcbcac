package tests

import (
	"fmt"
	"math"
	"slices"
	"sync"
	"testing"

	"loop.example/g00287/impl"
)

// neededThere are the items of the segment at this place that are needed among
// all items of segments that are not Freed.
func neededThere(s impl.Store, i int) []impl.Item {
	out, list, from := []impl.Item{}, itemsIn(keptOf(s)), 0
	for at, seg := range s.Log.Used {
		if slices.Contains(s.Freed, seg.No) {
			continue
		}
		for k, x := range seg.Items {
			if at == i && neededAsSaid(list, from+k) {
				out = append(out, x)
			}
		}
		from += len(seg.Items)
	}
	return out
}

// liveAsSaid is the document's own words.
func liveAsSaid(s impl.Store, i int) int {
	size := 0
	for _, x := range neededThere(s, i) {
		if gen := s.Log.Used[i].Gen; 1 <= gen && gen <= 1000000000 {
			size += len(itemAsSaid(x, gen))
		}
	}
	return size
}

// cleansAt tells whether there is a segment that is neither the head nor
// Freed.
func cleansAt(s impl.Store, i int) bool {
	return i >= 0 && i < len(s.Log.Used)-1 && !slices.Contains(s.Freed, s.Log.Used[i].No)
}

// gainAsSaid is the document's own words.
func gainAsSaid(s impl.Store, i int) int {
	if !cleansAt(s, i) {
		return 0
	}
	used, live := s.Log.Used, liveAsSaid(s, i)
	return (256 - live) * (used[len(used)-1].Gen - used[i].Gen + 1) / (256 + live)
}

// victimAsSaid is the document's own words; what is below 0 is no gain.
func victimAsSaid(s impl.Store) int {
	at, most := -1, 0
	for i := range s.Log.Used {
		if gain := gainAsSaid(s, i); gain > most {
			at, most = i, gain
		}
	}
	return at
}

// nextsThere are the records of NextsOf all items of segments that are not
// Freed, with those of the segment at this place as drop.
func nextsThere(s impl.Store, i int) []impl.Rec {
	drop := []bool{}
	for at, seg := range s.Log.Used {
		if !slices.Contains(s.Freed, seg.No) {
			drop = append(drop, slices.Repeat([]bool{at == i}, len(seg.Items))...)
		}
	}
	return nextsAsSaid(itemsIn(keptOf(s)), drop)
}

// cleanAsSaid is the document's own words.
func cleanAsSaid(s impl.Store, i int) (impl.Store, int) {
	if !storeRightAsSaid(s) || !cleansAt(s, i) {
		return s, 1
	}
	out := copyOfStore(s)
	add := func(x impl.Item) bool {
		g, ok := appendAsSaid(out.Log, x, 0)
		if !logRightAsSaid(out.Log) || !ok {
			return false
		}
		out.Log = g
		return true
	}
	for _, x := range neededThere(s, i) {
		if !add(x) {
			return s, 2
		}
	}
	for _, r := range nextsThere(out, i) {
		if !add(impl.Item{Seq: out.Log.NextSeq, Rec: r}) {
			return s, 2
		}
	}
	out.Freed = append(out.Freed, s.Log.Used[i].No)
	slices.Sort(out.Freed)
	return out, 0
}

// placesToTry are all places of Used, and some that are none.
func placesToTry(s impl.Store) []int {
	n := len(s.Log.Used)
	out := []int{-1, -n, n, n + 1, 1 << 32, -1 << 32, math.MaxInt, math.MinInt}
	for i := range n {
		out = append(out, i)
	}
	return out
}

// looksAsSaid asks for LiveOf and GainOf at every place, and for VictimOf, as
// the document says them, and that the store is as it was.
func looksAsSaid(t *testing.T, what string, s impl.Store) {
	t.Helper()
	before := copyOfStore(s)
	for _, i := range placesToTry(s) {
		if got, want := impl.LiveOf(s, i), liveAsSaid(s, i); got != want {
			t.Errorf("%s: LiveOf %d is %d, not %d: %s", what, i, got, want, tellStore(s))
		}
		if got, want := impl.GainOf(s, i), gainAsSaid(s, i); got != want {
			t.Errorf("%s: GainOf %d is %d, not %d: %s", what, i, got, want, tellStore(s))
		}
	}
	if got, want := impl.VictimOf(s), victimAsSaid(s); got != want {
		t.Errorf("%s: VictimOf is %d, not %d: %s", what, got, want, tellStore(s))
	}
	if !alikeStores(s, before) {
		t.Errorf("%s: the store handed in is written on", what)
	}
}

// isLive asks for LiveOf each place, spelt out.
func isLive(t *testing.T, what string, s impl.Store, want ...int) {
	t.Helper()
	looksAsSaid(t, what, s)
	got := []int{}
	for i := range s.Log.Used {
		got = append(got, impl.LiveOf(s, i))
	}
	if !slices.Equal(got, want) {
		t.Errorf("%s: LiveOf is %v, not %v", what, got, want)
	}
}

// gainsMost asks for GainOf each place, and for VictimOf, spelt out.
func gainsMost(t *testing.T, what string, s impl.Store, victim int, want ...int) {
	t.Helper()
	looksAsSaid(t, what, s)
	got := []int{}
	for i := range s.Log.Used {
		got = append(got, impl.GainOf(s, i))
	}
	if !slices.Equal(got, want) || impl.VictimOf(s) != victim {
		t.Errorf("%s: GainOf is %v, VictimOf %d; not %v, %d", what, got, impl.VictimOf(s), want, victim)
	}
}

// cleans asks for the answer as the document says it, and that the store that
// was handed in is as it was.
func cleans(t *testing.T, what string, s impl.Store, i int) (impl.Store, int) {
	t.Helper()
	before := copyOfStore(s)
	want, code := cleanAsSaid(s, i)
	got, is := impl.CleanSeg(s, i)
	if is != code || !alikeStores(got, want) {
		t.Errorf("%s: CleanSeg %d is %d, %s; not %d, %s", what, i, is, tellStore(got), code, tellStore(want))
	}
	if !alikeStores(s, before) {
		t.Errorf("%s: the store handed in is written on", what)
	}
	return got, is
}

// steps asks for the answer as the document says it.
func steps(t *testing.T, what string, s impl.Store) (impl.Store, int) {
	t.Helper()
	before := copyOfStore(s)
	want, code := s, 1
	if i := victimAsSaid(s); i >= 0 {
		want, code = cleanAsSaid(s, i)
	}
	got, is := impl.CleanStep(s)
	if is != code || !alikeStores(got, want) {
		t.Errorf("%s: CleanStep is %d, %s; not %d, %s", what, is, tellStore(got), code, tellStore(want))
	}
	if !alikeStores(s, before) {
		t.Errorf("%s: the store handed in is written on", what)
	}
	return got, is
}

// notCleaned asks for a code, and that all is as it was.
func notCleaned(t *testing.T, what string, s impl.Store, i int, want int) {
	t.Helper()
	got, code := cleans(t, what, s, i)
	if code != want || !alikeStores(got, s) {
		t.Errorf("%s: CleanSeg %d has the code %d, not %d: %s", what, i, code, want, tellStore(got))
	}
}

func noStep(t *testing.T, what string, s impl.Store, want int) {
	t.Helper()
	got, code := steps(t, what, s)
	if code != want || !alikeStores(got, s) {
		t.Errorf("%s: CleanStep has the code %d, not %d: %s", what, code, want, tellStore(got))
	}
}

// isCleaned asks that the segment at this place is cleaned, with just these
// items appended: every field of what is there then, and promise 13.
func isCleaned(t *testing.T, what string, s impl.Store, i int, taken ...impl.Item) impl.Store {
	t.Helper()
	got, code := cleans(t, what, s, i)
	if code != 0 {
		t.Fatalf("%s: CleanSeg %d has the code %d: %s", what, i, code, tellStore(s))
	}
	head := len(s.Log.Used) - 1
	if want := append(slices.Clone(s.Log.Used[head].Items), taken...); !slices.Equal(itemsIn(got.Log.Used[head:]), want) {
		t.Errorf("%s: CleanSeg %d: from the head on are %+v, not %+v", what, i, itemsIn(got.Log.Used[head:]), want)
	}
	wasCleaned(t, what, s, got, s.Log.Used[i].No)
	return got
}

// wasCleaned is promise 13, of a store before and after its segment of this No
// was cleaned.
func wasCleaned(t *testing.T, what string, before, after impl.Store, no int) {
	t.Helper()
	head, opened := len(before.Log.Used)-1, len(after.Log.Used)-len(before.Log.Used)
	if opened < 0 || !slices.EqualFunc(before.Log.Used[:head], after.Log.Used[:head], sameSeg) || before.Log.Used[head].No != after.Log.Used[head].No {
		t.Fatalf("%s: other segments in use: %s", what, tellStore(after))
	}
	freed := append(slices.Clone(before.Freed), no)
	slices.Sort(freed)
	if g, h := before.Log, after.Log; !slices.Equal(after.Freed, freed) || h.NextGen != g.NextGen+opened || h.Segs != g.Segs || h.Stamp != g.Stamp || h.NextValid != g.NextValid {
		t.Errorf("%s: %s; before: %s", what, tellStore(after), tellStore(before))
	}
	if slices.Contains(impl.FreeSegs(after.Log), no) {
		t.Errorf("%s: %d is free, and was not fixed", what, no)
	}
	tellsNow(t, what, after)
	toldAsBefore(t, what, before, after)
	isRightStore(t, what, after)
	notCleaned(t, what+", again", after, slices.IndexFunc(after.Log.Used, func(x impl.Seg) bool { return x.No == no }), impl.CodeNo)
	risesAs(t, what+", not fixed", after)
	risen, _ := rises(t, what, after.Log.Disk)
	toldAsBefore(t, what+", risen", before, risen)
	fixed, ok := fixesStore(t, what, after)
	if !ok || len(fixed.Freed) > 0 {
		t.Fatalf("%s: not fixed: %s", what, tellStore(fixed))
	}
	for _, n := range freed {
		if !slices.Contains(impl.FreeSegs(fixed.Log), n) {
			t.Errorf("%s: %d was cleaned and fixed, and is not free: %s", what, n, tellStore(fixed))
		}
	}
	if len(fixed.Log.Used) != len(after.Log.Used)-len(freed) {
		t.Errorf("%s: fixed: %s", what, tellStore(fixed))
	}
	toldAsBefore(t, what+", fixed", before, fixed)
	risesAs(t, what+", fixed", fixed)
}

func toldAsBefore(t *testing.T, what string, before, after impl.Store) {
	t.Helper()
	if a, b := impl.StateNow(before), impl.StateNow(after); !sameTold(a, b) || !impl.SameState(a, b) {
		t.Errorf("%s: %+v is told, not %+v", what, b, a)
	}
}

// dirtyStore has a segment all of whose items are needed, one of which some
// are, one of which none is, one without items, one by which alone a box tells
// its Next, and a head.
func dirtyStore(freed ...int) impl.Store {
	g := logWith(9,
		segOf(4, 3, boxItem(1, 1, 1, "ann", "inbox"), addItem(2, 1, 1, 0, "hello\n")),
		segOf(1, 4, addItem(3, 1, 2, 0, "bye"), flagItem(4, 1, 1, 1), boxItem(5, 5, 1, "bob", "old"), goneItem(6, 1, 2)),
		segOf(7, 6, flagItem(7, 1, 1, 2), flagItem(8, 1, 2, 4)),
		segOf(0, 7),
		segOf(5, 8, goneItem(9, 5, 4), dropItem(10, 6)),
		segOf(2, 9, flagItem(12, 1, 1, 7), addItem(13, 5, 1, 3, "to bob")))
	g.NextGen, g.NextSeq, g.NextValid, g.Stamp = 12, 40, 8, 2
	return impl.Store{Log: checkedLog(g), Freed: freed}
}

func dirtyBoxes() []impl.Box {
	return []impl.Box{
		{Valid: 1, User: "ann", Name: "inbox", Next: 3, Mails: []impl.Mail{{Uid: 1, Flags: 7, Text: "hello\n"}}},
		{Valid: 5, User: "bob", Name: "old", Next: 5, Mails: []impl.Mail{{Uid: 1, Flags: 3, Text: "to bob"}}},
	}
}

// storeOf has these segments, the last one as its head, on a disk with a check
// of it; it must be right.
func storeOf(t *testing.T, segs int, used ...impl.Seg) impl.Store {
	t.Helper()
	s := impl.Store{Log: checkedLog(logWith(segs, used...))}
	isRightStore(t, "a store to be cleaned", s)
	return s
}

// The sizes are the document's: 15 bytes for a record without texts, of
// numbers up to 127, and one for each byte of its texts.
func TestLiveOf(t *testing.T) {
	tellsBoxes(t, "a dirty store", dirtyStore(), dirtyBoxes()...)
	isRightStore(t, "a dirty store", dirtyStore())
	isLive(t, "a dirty store", dirtyStore(), 23+21, 21+15, 0, 0, 0, 15+21)
	isLive(t, "a new one", newStore(t, 5), 0)
	s := done(t, "a life", newStore(t, 6), makeRec(1, "ann", "inbox"))
	isLive(t, "a box", s, 23)
	s = done(t, "a life", s, addRec(1, 1, 0, "hi"))
	isLive(t, "a mail", s, 23+17)
	s = done(t, "a life", s, addRec(1, 2, 0, bodyOf(100)))
	isLive(t, "two mails", s, 23+17+115)
	s = done(t, "a life", s, flagRec(1, 1, 3))
	isLive(t, "a flag", s, 23+17+115+15)
	s = done(t, "a life", s, flagRec(1, 1, 3))
	isLive(t, "a flag in its place", s, 23+17+115+15)
	s = done(t, "a life", s, goneItem(0, 1, 2).Rec)
	isLive(t, "what went, and that it did", s, 23+17+15+15)
	s = done(t, "a life", s, dropItem(0, 1).Rec)
	isLive(t, "a drop alone", s, 15)
	isLive(t, "a drop of what is not there", storeOf(t, 5, segOf(0, 1, dropItem(3, 4))), 0)
	isLive(t, "nothing", impl.Store{})
}

func TestLiveOfEachKind(t *testing.T) {
	for what, c := range needCases() {
		if len(segAsSaid(7, c.list)) > impl.SegSize {
			continue
		}
		want := 0
		for k, needed := range flagsOf(c.marks) {
			if needed {
				want += len(itemAsSaid(c.list[k], 7))
			}
		}
		// In one segment, the head or not, and item by item in segments.
		isLive(t, what, impl.Store{Log: logWith(5, segOf(2, 7, c.list...))}, want)
		isLive(t, what, impl.Store{Log: logWith(5, segOf(2, 7, c.list...), segOf(1, 9))}, want, 0)
		apart, sizes := []impl.Seg{}, []int{}
		for k, x := range c.list {
			apart, sizes = append(apart, segOf(k, 7+k, x)), append(sizes, 0)
			if flagsOf(c.marks)[k] {
				sizes[k] = len(itemAsSaid(x, 7+k))
			}
		}
		if len(apart) <= 7 {
			isLive(t, what+", apart", impl.Store{Log: logWith(7, apart...)}, sizes...)
		}
	}
}

// The Gen is the segment's own, and counts with all its bytes.
func TestLiveOfLongNumbers(t *testing.T) {
	box, mail := boxItem(1, 1, 1, "ann", "inbox"), addItem(2, 1, 1, 0, "a")
	for gen, more := range map[int]int{1: 0, 126: 0, 127: 0, 128: 1, 16383: 1, 16384: 2, 2097151: 2, 2097152: 3, 268435455: 3, 268435456: 4, impl.MaxNumber - 3: 4} {
		s := storeOf(t, 6, segOf(3, gen, box), segOf(0, gen+1), segOf(5, gen+2, mail))
		moreBehind := len(varAsSaid(gen+2)) - 1
		isLive(t, fmt.Sprint("a Gen of ", gen), s, 23+more, 0, 16+moreBehind)
	}
	for seq, more := range map[int]int{1: 0, 127: 0, 128: 1, 16384: 2, impl.MaxNumber - 1: 4} {
		isLive(t, fmt.Sprint("a Seq of ", seq), storeOf(t, 6, segOf(3, 2, boxItem(seq, 1, 1, "ann", "inbox"))), 23+more)
	}
	great := storeOf(t, 6, segOf(3, impl.MaxNumber-1, boxItem(impl.MaxNumber-1, impl.MaxValid, impl.MaxValid+1, "abcdefgh", "abcdefgh")))
	isLive(t, "all as great as may be", great, 23+4+4+1+1+8)
}

// Items that lie twice count once: the first one, in the order of Used.
func TestLiveOfItemsThatLieTwice(t *testing.T) {
	box, mail, flag := boxItem(1, 1, 1, "ann", "inbox"), addItem(2, 1, 1, 0, "a"), flagItem(3, 1, 1, 5)
	s := storeOf(t, 7, segOf(5, 2, mail, mail), segOf(2, 3, box, flag), segOf(6, 4, mail, box), segOf(0, 5, flag, box, mail))
	isLive(t, "twice", s, 16, 23+15, 0, 0)
	for _, c := range []struct {
		freed []int
		want  []int
	}{
		{[]int{5}, []int{0, 23 + 15, 16, 0}},
		{[]int{2}, []int{16, 0, 23, 15}},
		{[]int{2, 5}, []int{0, 0, 16 + 23, 15}},
		{[]int{6}, []int{16, 23 + 15, 0, 0}},
		{[]int{5, 6}, []int{0, 23 + 15, 0, 16}},
		{[]int{2, 6}, []int{16, 0, 0, 15 + 23}},
		{[]int{2, 5, 6}, []int{0, 0, 0, 15 + 23 + 16}},
	} {
		s.Freed = c.freed
		isRightStore(t, "twice", s)
		isLive(t, fmt.Sprint("twice, Freed ", c.freed), s, c.want...)
	}
}

// What is Freed counts no more, neither as what is needed, nor as what makes
// another one needed.
func TestLiveOfWithFreed(t *testing.T) {
	box, mail, gone := boxItem(1, 1, 3, "ann", "inbox"), addItem(2, 1, 1, 0, "a"), goneItem(3, 1, 1)
	s := storeOf(t, 6, segOf(3, 2, mail), segOf(1, 3, gone), segOf(0, 4), segOf(5, 6, box))
	isLive(t, "that a mail went", s, 0, 15, 0, 23)
	s.Freed = []int{3}
	isLive(t, "that a mail went which lies in a Freed one", s, 0, 0, 0, 23)
	s.Freed = []int{0}
	isLive(t, "one without items Freed", s, 0, 15, 0, 23)
	s = storeOf(t, 6, segOf(3, 2, box), segOf(1, 3, dropItem(9, 1)), segOf(0, 4))
	isLive(t, "a drop", s, 0, 15, 0)
	s.Freed = []int{3}
	isLive(t, "a drop of a box that lies in a Freed one", s, 0, 0, 0)
	// A RecBox that counts only when the one with the greater Seq is Freed.
	s = storeOf(t, 6, segOf(3, 2, box), segOf(1, 3, boxItem(7, 1, 3, "ann", "inbox")), segOf(0, 4, mail))
	isLive(t, "two of a box", s, 0, 23, 16)
	s.Freed = []int{1}
	isLive(t, "two of a box, the later one Freed", s, 23, 0, 16)
	s.Freed = []int{3}
	isLive(t, "two of a box, the earlier one Freed", s, 0, 23, 16)
	s = storeOf(t, 6, segOf(3, 2, box, mail), segOf(1, 3, addItem(8, 1, 1, 0, "a")), segOf(0, 4, flagItem(9, 1, 1, 0), flagItem(10, 1, 1, 0)), segOf(4, 5))
	isLive(t, "two of a mail", s, 23, 16, 15, 0)
	s.Freed = []int{1}
	isLive(t, "two of a mail, the later one Freed", s, 23+16, 0, 15, 0)
	s.Freed = []int{0, 1}
	isLive(t, "two of a mail, and its flags Freed", s, 23+16, 0, 0, 0)
}

func TestGainOf(t *testing.T) {
	gainsMost(t, "a dirty store", dirtyStore(), 0, 4, 4, 4, 3, 2, 0)
	gainsMost(t, "a new one", newStore(t, 5), -1, 0)
	gainsMost(t, "nothing", impl.Store{}, -1)
	// One age: what has less that is needed gains more. One need: the older one
	// gains more.
	s := done(t, "a life", newStore(t, 6), makeRec(1, "ann", "inbox"), addRec(1, 1, 0, "hi"))
	s.Log, _ = impl.OpenSeg(s.Log, 0)
	gainsMost(t, "of 40 bytes, Gens 1 and 2", s, 0, 216*2/296, 0)
	for _, c := range []struct {
		size, age, want int
	}{
		{23, 1, 1}, {23, 2, 2}, {23, 3, 3}, {23, 9, 8}, {23, 10, 9}, {23, 99, 83},
		{50, 1, 1}, {85, 1, 1}, {86, 1, 0}, {86, 2, 1}, {128, 1, 0}, {128, 2, 1}, {128, 3, 1}, {128, 4, 1}, {128, 5, 2},
		{246, 1, 0}, {246, 49, 0}, {246, 50, 1}, {246, 99, 1}, {246, 100, 2}, {246, 1000, 19}, {246, 999999990, 19920318},
	} {
		s := storeOf(t, 6, segOf(3, 2, sizedItems(t, c.size)...), segOf(5, 2+c.age))
		victim := 0
		if c.want == 0 {
			victim = -1
		}
		isLive(t, fmt.Sprint("of ", c.size, " bytes"), s, c.size, 0)
		gainsMost(t, fmt.Sprintf("of %d bytes, %d older than the head", c.size, c.age), s, victim, c.want, 0)
	}
	empty := storeOf(t, 7, segOf(4, 1), segOf(6, 3), segOf(2, 4), segOf(0, 9), segOf(5, 10))
	gainsMost(t, "without items", empty, 0, 10, 8, 7, 2, 0)
	far := storeOf(t, 7, segOf(4, 1), segOf(6, impl.MaxNumber-2), segOf(0, impl.MaxNumber-1))
	gainsMost(t, "as old as may be", far, 0, impl.MaxNumber-1, 2, 0)
}

// sizedItems are a box and mails of it, all of them needed, of so many bytes
// in a segment of a Gen up to 127.
func sizedItems(t *testing.T, size int) []impl.Item {
	t.Helper()
	out := []impl.Item{boxItem(1, 1, 1, "ann", "inbox")}
	for left := size - 23; left > 0; {
		n := min(left, 110)
		if left-n > 0 && left-n < 20 {
			n -= 20
		}
		out = append(out, addItem(len(out)+1, 1, len(out), 0, bodyOf(n-15)))
		left -= n
	}
	if got := len(segAsSaid(1, out)) - 10; got != size {
		t.Fatalf("%d bytes, not %d", got, size)
	}
	return out
}

// More that is needed never gains more; neither does a younger one.
func TestGainOfGoesDown(t *testing.T) {
	for age := 1; age < 100; age += 7 {
		last := math.MaxInt
		for _, size := range []int{23, 43, 60, 85, 86, 100, 128, 150, 190, 246} {
			older, younger := storeOf(t, 6, segOf(3, 2, sizedItems(t, size)...), segOf(5, 3+age)), storeOf(t, 6, segOf(3, 3, sizedItems(t, size)...), segOf(5, 3+age))
			gain := impl.GainOf(older, 0)
			if gain != (256-size)*(age+2)/(256+size) || gain > last || impl.GainOf(younger, 0) > gain {
				t.Errorf("of %d bytes, %d older than the head: %d, behind %d", size, age+1, gain, last)
			}
			last = gain
		}
	}
	// In one store: a younger one with less gains more than an older one with
	// more, and an older one more than a younger one.
	s := storeOf(t, 8, segOf(3, 2, sizedItems(t, 200)...), segOf(5, 3), segOf(0, 4, dropItem(9, 7)), segOf(6, 5))
	gainsMost(t, "less and younger", s, 1, 56*4/456, 3, 2, 0)
}

func TestVictimOf(t *testing.T) {
	like := boxItem(9, 1, 1, "ann", "inbox")
	for _, c := range []struct {
		what   string
		store  impl.Store
		victim int
		gains  []int
	}{
		{"one", storeOf(t, 5, segOf(3, 4, like)), -1, []int{0}},
		{"two", storeOf(t, 5, segOf(3, 4), segOf(1, 6)), 0, []int{3, 0}},
		{"two, no gain", storeOf(t, 5, segOf(3, 4, sizedItems(t, 150)...), segOf(1, 5)), -1, []int{0, 0}},
		{"two, a gain in the end", storeOf(t, 5, segOf(3, 4, sizedItems(t, 150)...), segOf(1, 7)), 0, []int{1, 0}},
		{"three, the first", storeOf(t, 5, segOf(3, 4), segOf(1, 5), segOf(0, 6)), 0, []int{3, 2, 0}},
		{"three, the second", storeOf(t, 5, segOf(3, 4, sizedItems(t, 150)...), segOf(1, 5), segOf(0, 6)), 1, []int{0, 2, 0}},
		{"three, alike", storeOf(t, 5, segOf(3, 4, sizedItems(t, 100)...), segOf(1, 5, dropItem(90, 2), like), segOf(0, 6)), 0, []int{1, 1, 0}},
		{"four, the second of like ones", storeOf(t, 6, segOf(3, 4, sizedItems(t, 200)...), segOf(1, 5, addItem(40, 1, 50, 0, bodyOf(95))), segOf(0, 6, addItem(41, 1, 51, 0, bodyOf(60)), dropItem(42, 9)), segOf(4, 7)), 1, []int{0, 1, 1, 0}},
		{"four, the last but the head", storeOf(t, 6, segOf(3, 4, sizedItems(t, 200)...), segOf(1, 5, addItem(40, 1, 50, 0, bodyOf(95))), segOf(0, 6, dropItem(42, 9)), segOf(4, 7)), 2, []int{0, 1, 2, 0}},
	} {
		gainsMost(t, c.what, c.store, c.victim, c.gains...)
	}
	// With the first of like ones Freed, the next one counts.
	s := dirtyStore()
	gainsMost(t, "several alike", s, 0, 4, 4, 4, 3, 2, 0)
	s.Freed = []int{7}
	gainsMost(t, "the third of like ones Freed", s, 0, 4, 4, 0, 3, 2, 0)
	s.Freed = []int{0, 7}
	gainsMost(t, "two Freed", s, 0, 4, 4, 0, 0, 2, 0)
	first := isCleaned(t, "the first of like ones", dirtyStore(), 0, boxItem(1, 1, 1, "ann", "inbox"), addItem(2, 1, 1, 0, "hello\n"))
	gainsMost(t, "the first of like ones Freed", first, 1, 0, 4, 4, 3, 2, 0)
	second := isCleaned(t, "the second of like ones", first, 1, boxItem(5, 5, 1, "bob", "old"), goneItem(6, 1, 2))
	gainsMost(t, "two of like ones Freed", second, 2, 0, 0, 4, 3, 2, 0)
	all := storeOf(t, 8, segOf(6, 3), segOf(2, 4), segOf(7, 5), segOf(0, 6))
	all.Freed = []int{2, 6, 7}
	gainsMost(t, "all but the head Freed", all, -1, 0, 0, 0, 0)
	noStep(t, "all but the head Freed", all, impl.CodeNo)
}

// Of all orders of gains that several segments may have, the greatest one
// counts, and of like ones the first.
func TestVictimOfEveryOrder(t *testing.T) {
	sizes := []int{30, 30, 90, 160}
	for list := range ordersOf([]impl.Item{{Seq: 0}, {Seq: 1}, {Seq: 2}, {Seq: 3}}) {
		used, live := []impl.Seg{}, []int{}
		for i, x := range list {
			size := sizes[x.Seq]
			items := []impl.Item{}
			if size == 160 {
				items, size = append(items, addItem(50+i, 1, 20+i, 0, bodyOf(65))), size-80
			}
			items = append(items, addItem(60+i, 1, 40+i, 0, bodyOf(size-15)))
			used, live = append(used, segOf((3*i+1)%7, 3+i, items...)), append(live, sizes[x.Seq])
		}
		s := storeOf(t, 7, append(used, segOf(2, 30, boxItem(1, 1, 1, "ann", "inbox")))...)
		isLive(t, "in any order", s, append(live, 23)...)
		at, most := -1, 0
		for i, n := range live {
			if gain := (256 - n) * (28 - i) / (256 + n); gain > most {
				at, most = i, gain
			}
		}
		if got := impl.VictimOf(s); got != at {
			t.Errorf("of %v the victim is %d, not %d", live, got, at)
		}
	}
}

func TestCleanSegOfEachPlace(t *testing.T) {
	s := dirtyStore()
	taken := [][]impl.Item{
		{boxItem(1, 1, 1, "ann", "inbox"), addItem(2, 1, 1, 0, "hello\n")},
		{boxItem(5, 5, 1, "bob", "old"), goneItem(6, 1, 2)},
		{}, {},
		{boxItem(40, 5, 5, "bob", "old")},
	}
	for i, items := range taken {
		got := isCleaned(t, fmt.Sprint("place ", i), s, i, items...)
		nextSeq := 40
		if i == 4 {
			nextSeq = 41
		}
		logTold(t, fmt.Sprint("place ", i), got.Log, []int{4, 1, 7, 0, 5, 2}, []int{3, 4, 6, 7, 8, 9}, []int{2, 4, 2, 0, 2, 2 + len(items)}, 12, nextSeq, 8, 2)
		tellsBoxes(t, fmt.Sprint("place ", i), got, dirtyBoxes()...)
		fixed, _ := fixesStore(t, "fixed", got)
		tellsBoxes(t, fmt.Sprint("place ", i, ", fixed"), fixed, dirtyBoxes()...)
		if fixed.Log.Stamp != 3 || len(fixed.Log.Used) != 5 || len(impl.FreeSegs(fixed.Log)) != 4 {
			t.Errorf("place %d: fixed: %s", i, tellStore(fixed))
		}
	}
}

// A place that is none, the head's and that of one that is Freed.
func TestCleanSegRefuses(t *testing.T) {
	for _, freed := range [][]int{nil, {0}, {7}, {0, 7}} {
		s := dirtyStore(freed...)
		isRightStore(t, "a dirty store", s)
		for _, i := range placesToTry(s) {
			if !cleansAt(s, i) {
				notCleaned(t, fmt.Sprint("Freed ", freed), s, i, impl.CodeNo)
			}
		}
		notCleaned(t, "the head", s, 5, impl.CodeNo)
		notCleaned(t, "behind the last", s, 6, impl.CodeNo)
		notCleaned(t, "below 0", s, -1, impl.CodeNo)
		if slices.Contains(freed, 0) {
			notCleaned(t, "a Freed one", s, 3, impl.CodeNo)
		} else {
			isCleaned(t, "one that is not Freed", s, 3)
		}
		if slices.Contains(freed, 7) {
			notCleaned(t, "a Freed one", s, 2, impl.CodeNo)
		} else {
			isCleaned(t, "one that is not Freed", s, 2)
		}
	}
	for segs := impl.MinSegs; segs <= impl.MaxSegs; segs++ {
		s := newStore(t, segs)
		for _, i := range placesToTry(s) {
			notCleaned(t, "the head alone", s, i, impl.CodeNo)
		}
		noStep(t, "the head alone", s, impl.CodeNo)
		s = done(t, "the head alone", s, makeRec(1, "ann", "inbox"))
		notCleaned(t, "the head alone", s, 0, impl.CodeNo)
		noStep(t, "the head alone", s, impl.CodeNo)
	}
}

// Whatever the order in which segments are cleaned: all is told as before,
// Freed ascends, what is Freed stays in use, and in the end all is free but
// the head.
func TestCleanSegInEveryOrder(t *testing.T) {
	for list := range ordersOf([]impl.Item{{Seq: 0}, {Seq: 1}, {Seq: 2}, {Seq: 3}, {Seq: 4}}) {
		s, order := dirtyStore(), []int{}
		for _, x := range list {
			order = append(order, x.Seq)
			no := s.Log.Used[x.Seq].No
			got, code := cleans(t, fmt.Sprint("in the order ", order), s, x.Seq)
			if code != 0 {
				t.Fatalf("in the order %v: the code is %d", order, code)
			}
			wasCleaned(t, fmt.Sprint("in the order ", order), s, got, no)
			s = got
		}
		tellsBoxes(t, fmt.Sprint("in the order ", order), s, dirtyBoxes()...)
		gainsMost(t, fmt.Sprint("in the order ", order), s, -1, make([]int, len(s.Log.Used))...)
		if !slices.Equal(s.Freed, []int{0, 1, 4, 5, 7}) || len(s.Log.Used) != 6 {
			t.Errorf("in the order %v: %s", order, tellStore(s))
		}
		fixed, ok := fixesStore(t, "in the end", s)
		if !ok || len(fixed.Log.Used) != 1 || fixed.Log.Used[0].No != 2 {
			t.Errorf("in the order %v, fixed: %s", order, tellStore(fixed))
		}
		tellsBoxes(t, fmt.Sprint("in the order ", order), fixed, dirtyBoxes()...)
		if t.Failed() {
			t.FailNow()
		}
	}
}

// What is Freed counts for nothing, whatever lies in it: of a mail that went
// and lies in a Freed segment alone it needs not be told that it went, but its
// box must tell its Next.
func TestCleanSegOfWhatIsNeededNoMore(t *testing.T) {
	s := storeOf(t, 8, segOf(6, 2, boxItem(1, 1, 1, "ann", "inbox"), addItem(2, 1, 1, 0, "a")), segOf(3, 4, goneItem(3, 1, 1)), segOf(0, 5))
	both := isCleaned(t, "that a mail went", s, 1, goneItem(3, 1, 1))
	isCleaned(t, "and its mail", both, 0, boxItem(1, 1, 1, "ann", "inbox"))
	first := isCleaned(t, "a mail that went", s, 0, boxItem(1, 1, 1, "ann", "inbox"))
	isLive(t, "a mail that went", first, 0, 0, 23)
	second := isCleaned(t, "that it went", first, 1, boxItem(4, 1, 2, "ann", "inbox"))
	tellsBoxes(t, "that it went", second, impl.Box{Valid: 1, User: "ann", Name: "inbox", Next: 2})
	if second.Log.NextSeq != 5 || !slices.Equal(second.Freed, []int{3, 6}) {
		t.Errorf("that it went: %s", tellStore(second))
	}
	fixed, _ := fixesStore(t, "that it went", second)
	isLive(t, "that it went, fixed", fixed, 23)
	done(t, "the next mail", fixed, addRec(1, 2, 0, "b"))
	refused(t, "a Uid that was given", fixed, addRec(1, 1, 0, "b"), impl.CodeNo)
	// A drop of a box that lies in a Freed segment alone goes without a trace.
	s = storeOf(t, 8, segOf(6, 2, boxItem(1, 1, 1, "ann", "inbox"), addItem(2, 1, 1, 0, "a")), segOf(3, 4, dropItem(3, 1)), segOf(0, 5))
	isCleaned(t, "a drop", s, 1, dropItem(3, 1))
	first = isCleaned(t, "what was dropped", s, 0)
	second = isCleaned(t, "its drop", first, 1)
	fixed, _ = fixesStore(t, "its drop", second)
	if tellsBoxes(t, "its drop", fixed); len(itemsIn(fixed.Log.Used)) > 0 || fixed.Log.NextValid != 2 {
		t.Errorf("its drop: %s", tellStore(fixed))
	}
	refused(t, "a Valid that was given", fixed, makeRec(1, "ann", "inbox"), impl.CodeNo)
	done(t, "the next Valid", fixed, makeRec(2, "ann", "inbox"))
}

// Items that are needed only because the segment that has them, too, is Freed.
func TestCleanSegOfWhatIsNeededNow(t *testing.T) {
	box, mail, flag := boxItem(1, 1, 1, "ann", "inbox"), addItem(2, 1, 1, 0, "a"), flagItem(3, 1, 1, 5)
	s := storeOf(t, 8, segOf(6, 2, box, mail), segOf(3, 4, mail, box, flag), segOf(0, 5))
	isCleaned(t, "the other one is not Freed", s, 1, flag)
	s.Freed = []int{6}
	isRightStore(t, "the other one is Freed", s)
	isCleaned(t, "the other one is Freed", s, 1, mail, box, flag)
	// What was taken out is needed where it lies now.
	s = storeOf(t, 8, segOf(6, 2, box, mail), segOf(3, 4, flag))
	s = isCleaned(t, "the first one", s, 0, box, mail)
	isLive(t, "the first one", s, 0, 15+23+16)
	s.Log, _ = impl.OpenSeg(s.Log, 0)
	s = isCleaned(t, "the second one", s, 1, flag, box, mail)
	isLive(t, "the second one", s, 0, 0, 15+23+16)
	fixed, _ := fixesStore(t, "both", s)
	isLive(t, "both", fixed, 15+23+16)
	tellsBoxes(t, "both", fixed, impl.Box{Valid: 1, User: "ann", Name: "inbox", Next: 2, Mails: []impl.Mail{{Uid: 1, Flags: 5, Text: "a"}}})
}

// NextsOf are asked behind what was taken out: of each box that would tell a
// lesser Next, in order, and of no other.
func TestCleanSegOfNexts(t *testing.T) {
	// A box without which nothing is told: it is taken out, and no more.
	s := storeOf(t, 8, segOf(6, 2, boxItem(1, 1, 7, "ann", "inbox"), boxItem(2, 2, 1, "ann", "old")), segOf(0, 5))
	isCleaned(t, "boxes alone", s, 0, boxItem(1, 1, 7, "ann", "inbox"), boxItem(2, 2, 1, "ann", "old"))
	// Three boxes tell their Next by mails that went, of which nothing else lies
	// there, one by a mail that is there.
	s = storeOf(t, 8,
		segOf(6, 2, goneItem(11, 4, 2), goneItem(12, 2, 9), goneItem(13, 3, 1), goneItem(14, 9, 5), goneItem(15, 1, 1), goneItem(16, 2, 3)),
		segOf(3, 3, boxItem(1, 1, 1, "ann", "inbox"), boxItem(2, 2, 4, "bob", "inbox"), boxItem(3, 3, 2, "cid", "inbox")),
		segOf(0, 5, boxItem(4, 4, 1, "ann", "old"), addItem(5, 3, 2, 0, "c"), addItem(6, 1, 2, 0, "a")))
	got := isCleaned(t, "mails that went", s, 0, boxItem(17, 2, 10, "bob", "inbox"), boxItem(18, 4, 3, "ann", "old"))
	if got.Log.NextSeq != 19 {
		t.Errorf("mails that went: %s", tellStore(got))
	}
	// Behind it the boxes that were are needed no more.
	isCleaned(t, "the boxes", got, 1, boxItem(1, 1, 1, "ann", "inbox"), boxItem(3, 3, 2, "cid", "inbox"))
	isCleaned(t, "the boxes, ahead of the mails that went", s, 1, boxItem(1, 1, 1, "ann", "inbox"), boxItem(2, 2, 4, "bob", "inbox"), boxItem(3, 3, 2, "cid", "inbox"))
	// A mail that went lies there with what tells so: that is taken out.
	s = storeOf(t, 8, segOf(6, 2, boxItem(1, 1, 1, "ann", "inbox"), addItem(2, 1, 8, 0, "a"), goneItem(3, 1, 8)), segOf(0, 5))
	got = isCleaned(t, "a mail and that it went", s, 0, boxItem(1, 1, 1, "ann", "inbox"), goneItem(3, 1, 8))
	got.Log, _ = impl.OpenSeg(got.Log, 0)
	got = isCleaned(t, "again", got, 1, boxItem(1, 1, 1, "ann", "inbox"), boxItem(4, 1, 9, "ann", "inbox"))
	tellsBoxes(t, "again", got, impl.Box{Valid: 1, User: "ann", Name: "inbox", Next: 9})
	fixed, _ := fixesStore(t, "again", got)
	isLive(t, "again, fixed", fixed, 23)
}

// With each Kind of what is needed, and of what is not: what is told is told
// still.
func TestCleanSegOfEachKind(t *testing.T) {
	for what, c := range needCases() {
		if len(segAsSaid(7, c.list)) > impl.SegSize {
			continue
		}
		whole := impl.Store{Log: checkedLog(logWith(6, segOf(2, 7, c.list...), segOf(1, 9)))}
		if !storeRightAsSaid(whole) {
			notCleaned(t, what, whole, 0, impl.CodeNo)
			continue
		}
		got, code := cleans(t, what, whole, 0)
		if code != 0 {
			t.Errorf("%s: the code is %d", what, code)
			continue
		}
		wasCleaned(t, what, whole, got, 2)
		for cut := range c.list {
			parted := impl.Store{Log: checkedLog(logWith(7, segOf(2, 7, c.list[:cut]...), segOf(5, 8, c.list[cut:]...), segOf(1, 9)))}
			for i := range 2 {
				got, code := cleans(t, what, parted, i)
				if code != 0 {
					t.Fatalf("%s, cut at %d: the code is %d", what, cut, code)
				}
				wasCleaned(t, fmt.Sprint(what, ", cut at ", cut), parted, got, []int{2, 5}[i])
				both, code := cleans(t, what, got, 1-i)
				if code != 0 {
					t.Fatalf("%s, cut at %d: the code is %d", what, cut, code)
				}
				wasCleaned(t, fmt.Sprint(what, ", cut at ", cut, ", both"), got, both, []int{5, 2}[i])
			}
		}
	}
}

// A cleaning that has room in the head, to its last byte, or needs a new one.
func TestCleanSegNeedsANewHead(t *testing.T) {
	box := boxItem(1, 1, 9, "ann", "inbox")
	for segs := impl.MinSegs; segs <= impl.MaxSegs; segs++ {
		for used := 2; used <= segs; used++ {
			for _, left := range []int{0, 1, 22, 23, 24, 60} {
				what := fmt.Sprintf("%d of %d in use, %d bytes left", used, segs, left)
				s := filledStore(t, segs, used, left)
				if used == segs && left < 23 {
					notCleaned(t, what, s, 0, impl.CodeFull)
					continue
				}
				got := isCleaned(t, what, s, 0, box)
				head := got.Log.Used[used-1]
				if left >= 23 && (len(got.Log.Used) != used || head.End != 256-left+23) {
					t.Errorf("%s: %s", what, tellStore(got))
				}
				if left < 23 && (len(got.Log.Used) != used+1 || !sameSeg(got.Log.Used[used], segOf(0, 3+used, box)) || head.End != 256-left) {
					t.Errorf("%s: %s", what, tellStore(got))
				}
				if used > 2 {
					// Nothing is needed of the others: no room is needed, either.
					isCleaned(t, what+", another one", s, 1)
				}
			}
		}
	}
	s := filledStore(t, 6, 6, 0)
	if impl.VictimOf(s) != 0 {
		t.Fatalf("the victim is %d", impl.VictimOf(s))
	}
	noStep(t, "no room", s, impl.CodeFull)
}

// headWith is a head of No 0 and Gen 6 with so many bytes left (136 at most),
// and items of which none is needed, the last one of Seq 61.
func headWith(t *testing.T, left int) impl.Seg {
	t.Helper()
	items := []impl.Item{addOf(t, 40, 59, 6), addOf(t, 40+(136-left)/2, 60, 6), addOf(t, 30+(137-left)/2, 61, 6)}
	for i := range items {
		items[i].Rec.Valid = 90
	}
	return segOf(0, 6, items...)
}

// Several items of which just so many fit: all are taken out, or none.
func TestCleanSegOfSeveralAtTheEnd(t *testing.T) {
	items := []impl.Item{boxItem(1, 1, 1, "ann", "inbox"), addItem(2, 1, 1, 0, bodyOf(20)), addItem(3, 1, 2, 0, bodyOf(30))}
	sums := []int{23, 23 + 35, 23 + 35 + 45}
	next := boxItem(62, 1, 9, "ann", "inbox")
	for left := 0; left <= 135; left++ {
		for _, went := range []bool{false, true} {
			list, taken := slices.Clone(items), slices.Clone(items)
			room := sums[2]
			if went {
				// What tells the Next comes behind, with a Seq of its own.
				list, taken, room = append(list, goneItem(9, 1, 8)), append(taken, next), room+23
			}
			for _, segs := range []int{5, 6} {
				used := []impl.Seg{segOf(4, 2, list...), segOf(3, 3), segOf(2, 4), segOf(1, 5), headWith(t, left)}
				s := storeOf(t, segs, used...)
				what := fmt.Sprintf("%d segments, %d bytes left, a Next to be told: %v", segs, left, went)
				if s.Log.Used[4].End != impl.SegSize-left || s.Log.NextSeq != 62 {
					t.Fatalf("%s: %s", what, tellStore(s))
				}
				if segs == 5 && left < room {
					notCleaned(t, what, s, 0, impl.CodeFull)
					continue
				}
				got := isCleaned(t, what, s, 0, taken...)
				if opened := len(got.Log.Used) - 5; opened > 1 || (opened == 0) != (left >= room) {
					t.Errorf("%s: %s", what, tellStore(got))
				}
				if left == room && got.Log.Used[4].End != impl.SegSize {
					t.Errorf("%s: the head is not full", what)
				}
			}
		}
	}
}

// A segment that is Freed and not fixed is in use still: it is no room.
func TestCleanSegDoesNotUseWhatIsNotFixed(t *testing.T) {
	box, mail := boxItem(1, 1, 9, "ann", "inbox"), addItem(2, 1, 1, 0, bodyOf(40))
	s := storeOf(t, 5, segOf(4, 2, box), segOf(2, 3), segOf(3, 4, mail), segOf(1, 5, goneItem(8, 1, 3)), segOf(0, 6, addItem(30, 90, 1, 0, bodyOf(100)), addItem(31, 90, 2, 0, bodyOf(93))))
	s = isCleaned(t, "one without items", s, 1)
	s = isCleaned(t, "one of which nothing is needed", s, 3)
	if !slices.Equal(s.Freed, []int{1, 2}) || len(impl.FreeSegs(s.Log)) > 0 {
		t.Fatalf("Freed: %s", tellStore(s))
	}
	s = isCleaned(t, "one that fits just so", s, 0, box)
	if s.Log.Used[4].End != impl.SegSize {
		t.Fatalf("the head is not full: %s", tellStore(s))
	}
	notCleaned(t, "no room, unless it is fixed", s, 2, impl.CodeFull)
	noStep(t, "no room, unless it is fixed", s, impl.CodeFull)
	fixed, _ := fixesStore(t, "fixed", s)
	if free := impl.FreeSegs(fixed.Log); !slices.Equal(free, []int{1, 2, 4}) {
		t.Fatalf("fixed: %v are free", free)
	}
	got := isCleaned(t, "fixed", fixed, 0, mail)
	logTold(t, "fixed", got.Log, []int{3, 0, 1}, []int{4, 6, 7}, []int{1, 3, 1}, 8, 32, 91, 2)
}

// Numbers that are given no more: what needs none is cleaned still.
func TestCleanSegOfTheGreatestNumbers(t *testing.T) {
	top := impl.MaxNumber
	with := func(s impl.Store, turn func(g *impl.Log)) impl.Store {
		turn(&s.Log)
		s.Log = checkedLog(s.Log)
		isRightStore(t, "great numbers", s)
		return s
	}
	s := with(dirtyStore(), func(g *impl.Log) { g.NextSeq = top })
	notCleaned(t, "the greatest NextSeq, a Next to be told", s, 4, impl.CodeFull)
	isCleaned(t, "the greatest NextSeq, none to be told", s, 0, boxItem(1, 1, 1, "ann", "inbox"), addItem(2, 1, 1, 0, "hello\n"))
	isCleaned(t, "the greatest NextSeq, none to be told", s, 1, boxItem(5, 5, 1, "bob", "old"), goneItem(6, 1, 2))
	s = with(dirtyStore(), func(g *impl.Log) { g.NextSeq = top - 1 })
	got := isCleaned(t, "the greatest NextSeq but one", s, 4, boxItem(top-1, 5, 5, "bob", "old"))
	if got.Log.NextSeq != top {
		t.Errorf("the greatest NextSeq but one: %s", tellStore(got))
	}
	s = with(filledStore(t, 8, 3, 22), func(g *impl.Log) { g.NextGen = top })
	notCleaned(t, "the greatest NextGen", s, 0, impl.CodeFull)
	isCleaned(t, "the greatest NextGen, nothing needed", s, 1)
	s = with(filledStore(t, 8, 3, 22), func(g *impl.Log) { g.NextGen = top - 1 })
	if got := isCleaned(t, "the greatest NextGen but one", s, 0, boxItem(1, 1, 9, "ann", "inbox")); got.Log.NextGen != top {
		t.Errorf("the greatest NextGen but one: %s", tellStore(got))
	}
	s = with(filledStore(t, 8, 3, 23), func(g *impl.Log) { g.NextGen = top })
	isCleaned(t, "the greatest NextGen, but room", s, 0, boxItem(1, 1, 9, "ann", "inbox"))
	// In a head of a long Gen the same items are longer.
	s = storeOf(t, 6, segOf(3, 100, boxItem(1, 1, 1, "ann", "inbox")), segOf(1, 300, addItem(30, 90, 1, 0, bodyOf(95)), addItem(31, 90, 2, 0, bodyOf(94))))
	if left := 256 - s.Log.Used[1].End; left != 24 {
		t.Fatalf("%d bytes are left", left)
	}
	if got := isCleaned(t, "a long Gen", s, 0, boxItem(1, 1, 1, "ann", "inbox")); got.Log.Used[1].End != 256 {
		t.Errorf("a long Gen: %s", tellStore(got))
	}
}

// Where nothing is gained nothing is cleaned, though it could be.
func TestCleanStepWithoutAGain(t *testing.T) {
	items := sizedItems(t, 150)
	s := storeOf(t, 6, segOf(3, 4, items...), segOf(1, 5))
	gainsMost(t, "no gain", s, -1, 0, 0)
	noStep(t, "no gain", s, impl.CodeNo)
	isCleaned(t, "no gain, but asked for", s, 0, items...)
	s = storeOf(t, 6, segOf(3, 4, items[0]), segOf(5, 5, items[1:]...), segOf(1, 6))
	gainsMost(t, "a gain ahead of none", s, 0, 2, 0, 0)
	got, code := steps(t, "a gain ahead of none", s)
	if code != 0 || !slices.Equal(got.Freed, []int{3}) {
		t.Fatalf("a gain ahead of none: %d, %s", code, tellStore(got))
	}
	noStep(t, "none is left", got, impl.CodeNo)
	isCleaned(t, "none is left, but asked for", got, 1, items[1:]...)
}

// CleanStep cleans the victim, again and again, until nothing is to be gained.
func TestCleanStepUntilNothingIsGained(t *testing.T) {
	for _, fix := range []bool{false, true} {
		s, order := dirtyStore(), []int{}
		for impl.VictimOf(s) >= 0 {
			no := s.Log.Used[impl.VictimOf(s)].No
			got, code := steps(t, "until nothing is gained", s)
			if code != 0 || len(order) > 20 {
				t.Fatalf("behind %v the code is %d: %s", order, code, tellStore(s))
			}
			wasCleaned(t, "until nothing is gained", s, got, no)
			s, order = got, append(order, no)
			if fix {
				s, _ = fixesStore(t, "until nothing is gained", s)
			}
		}
		if !slices.Equal(order, []int{4, 1, 7, 0, 5}) {
			t.Errorf("cleaned are %v", order)
		}
		noStep(t, "nothing is gained", s, impl.CodeNo)
		tellsBoxes(t, "nothing is gained", s, dirtyBoxes()...)
		s, _ = fixesStore(t, "nothing is gained", s)
		logTold(t, "nothing is gained", s.Log, []int{2}, []int{9}, []int{7}, 12, 41, 8, s.Log.Stamp)
		noStep(t, "nothing is gained, fixed", s, impl.CodeNo)
	}
}

// A store that is filled has room again when it is cleaned and fixed, as often
// as it is filled.
func TestCleanStepMakesRoom(t *testing.T) {
	for segs := impl.MinSegs; segs <= impl.MaxSegs; segs++ {
		s := done(t, "a life", newStore(t, segs), makeRec(1, "ann", "inbox"), addRec(1, 1, 0, "hello"), makeRec(2, "bob", "inbox"), addRec(2, 1, 0, bodyOf(50)))
		cleaned := 0
		for n := range 220 {
			next, code := does(t, "filled", s, flagRec(1+n%2, 1, n%8))
			for code == impl.CodeFull {
				fixed, _ := steps(t, "filled", s)
				fixed, _ = fixesStore(t, "filled", fixed)
				if toldAsBefore(t, "filled", s, fixed); cleaned > 100 || t.Failed() {
					t.Fatalf("%d segments, %d cleaned: %s", segs, cleaned, tellStore(s))
				}
				s, cleaned = fixed, cleaned+1
				next, code = does(t, "filled", s, flagRec(1+n%2, 1, n%8))
			}
			s = next
		}
		if cleaned < 3 {
			t.Errorf("%d segments: just %d were cleaned", segs, cleaned)
		}
		tellsBoxes(t, "filled and cleaned", s,
			impl.Box{Valid: 1, User: "ann", Name: "inbox", Next: 2, Mails: []impl.Mail{{Uid: 1, Flags: 218 % 8, Text: "hello"}}},
			impl.Box{Valid: 2, User: "bob", Name: "inbox", Next: 2, Mails: []impl.Mail{{Uid: 1, Flags: 219 % 8, Text: bodyOf(50)}}})
		risesAs(t, "filled and cleaned", s)
	}
}

// wrongStores are stores that are not right: in their log, in Freed, or in
// what they tell.
func wrongStores() map[string]impl.Store {
	stores := map[string]impl.Store{"nothing": {}, "Freed alone": {Freed: []int{0}}}
	for what, g := range wrongLogs() {
		stores[what] = impl.Store{Log: g}
		stores[what+", Freed"] = impl.Store{Log: g, Freed: []int{0}}
	}
	for _, freed := range [][]int{{4}, {1}, {5}, {2}, {0, 2}, {7, 0}, {0, 0}, {7, 7}, {3}, {8}, {0, 8}, {9}, {-1}, {-1, 0}, {0, 7, 99}, {math.MaxInt}, {math.MinInt}, {7 + 1<<32}, {0, 1, 2, 4, 5, 7}} {
		stores[fmt.Sprint("Freed ", freed)] = dirtyStore(freed...)
	}
	for what, turn := range map[string]func(s *impl.Store){
		"no Stamp":                 func(s *impl.Store) { s.Log.Stamp = 0 },
		"a great Stamp":            func(s *impl.Store) { s.Log.Stamp = impl.MaxNumber + 1 },
		"a NextSeq that was given": func(s *impl.Store) { s.Log.NextSeq = 13 },
		"a NextGen that was given": func(s *impl.Store) { s.Log.NextGen = 9 },
		"a NextValid of a box":     func(s *impl.Store) { s.Log.NextValid = 6 },
		"Segs of one less":         func(s *impl.Store) { s.Log.Segs-- },
		"Segs of one more":         func(s *impl.Store) { s.Log.Segs++ },
		"a write that waits":       func(s *impl.Store) { s.Log.Disk.Cache = cacheOf(1, 9) },
		"a sector less":            func(s *impl.Store) { s.Log.Disk.Sectors = s.Log.Disk.Sectors[1:] },
		"a head of a lesser Gen":   func(s *impl.Store) { s.Log.Used[5].Gen = 2 },
		"a head of no Gen":         func(s *impl.Store) { s.Log.Used[5].Gen = 0 },
		"a head of a greater Gen":  func(s *impl.Store) { s.Log.Used[5].Gen = 11 },
		"a Gen above the head's":   func(s *impl.Store) { s.Log.Used[0].Gen = 14 },
		"the Gen of the next one":  func(s *impl.Store) { s.Log.Used[0].Gen = 4 },
		"no Gen":                   func(s *impl.Store) { s.Log.Used[1].Gen = 0 },
		"a Gen too great":          func(s *impl.Store) { s.Log.Used[1].Gen = impl.MaxNumber + 1 },
		"the No of the head":       func(s *impl.Store) { s.Log.Used[1].No = 2 },
		"the No of the first one":  func(s *impl.Store) { s.Log.Used[1].No = 4 },
		"another End":              func(s *impl.Store) { s.Log.Used[0].End++ },
		"another Flags":            func(s *impl.Store) { s.Log.Used[0].Items[1].Rec.Flags = 1 },
		"another Text":             func(s *impl.Store) { s.Log.Used[0].Items[1].Rec.Text = "" },
		"an item less":             func(s *impl.Store) { s.Log.Used[0].Items = s.Log.Used[0].Items[:1] },
		"an item twice":            func(s *impl.Store) { s.Log.Used[0].Items = slices.Repeat(s.Log.Used[0].Items, 2) },
		"from the head on":         func(s *impl.Store) { slices.Reverse(s.Log.Used) },
		"without the head":         func(s *impl.Store) { s.Log.Used = s.Log.Used[:5]; s.Log.Used[3].End = 0 },
	} {
		for _, freed := range [][]int{nil, {0}} {
			s := dirtyStore(freed...)
			turn(&s)
			stores[fmt.Sprint(what, ", Freed ", freed)] = s
		}
	}
	one, other := boxItem(8, 3, 1, "ann", "old"), boxItem(9, 4, 1, "ann", "old")
	stores["two boxes of one name"] = impl.Store{Log: logWith(5, segOf(0, 2, one, other), segOf(3, 5))}
	stores["two boxes of one name, apart"] = impl.Store{Log: logWith(5, segOf(0, 2, one), segOf(3, 5, other), segOf(1, 6))}
	return stores
}

// Of a store that is not right LiveOf, GainOf and VictimOf tell what they do
// of any; it is not cleaned.
func TestCleaningOfWrongStores(t *testing.T) {
	victims := 0
	for what, s := range wrongStores() {
		if impl.StoreOk(s) || storeRightAsSaid(s) {
			t.Errorf("%s: right: %s", what, tellStore(s))
		}
		looksAsSaid(t, what, s)
		for _, i := range placesToTry(s) {
			notCleaned(t, what, s, i, impl.CodeNo)
		}
		noStep(t, what, s, impl.CodeNo)
		if impl.VictimOf(s) >= 0 {
			victims++
		}
	}
	if victims < 100 {
		t.Errorf("just %d have a victim", victims)
	}
}

// What is told of stores that are not right, spelt out.
func TestGainOfWrongStores(t *testing.T) {
	turn := func(turn func(g *impl.Log)) impl.Store {
		s := dirtyStore()
		turn(&s.Log)
		return s
	}
	// No item has a frame of a Gen that may not be.
	none := turn(func(g *impl.Log) { g.Used[1].Gen = 0 })
	isLive(t, "no Gen", none, 44, 0, 0, 0, 0, 36)
	gainsMost(t, "no Gen", none, 1, 4, 10, 4, 3, 2, 0)
	isLive(t, "a Gen too great", turn(func(g *impl.Log) { g.Used[0].Gen = impl.MaxNumber + 1 }), 0, 36, 0, 0, 0, 36)
	isLive(t, "a Gen as great as may be", turn(func(g *impl.Log) { g.Used[0].Gen = impl.MaxNumber }), 44+8, 36, 0, 0, 0, 36)
	gainsMost(t, "a Gen above the head's", turn(func(g *impl.Log) { g.Used[0].Gen = 14 }), 1, 212*-4/300, 4, 4, 3, 2, 0)
	gainsMost(t, "a head of no Gen", turn(func(g *impl.Log) { g.Used[5].Gen = 0 }), -1, 212*-2/300, 220*-3/292, -5, -6, -7, 0)
	gainsMost(t, "a head of a lesser Gen", turn(func(g *impl.Log) { g.Used[5].Gen = 3 }), -1, 212/300, 0, -2, -3, -4, 0)
	// Two of one Seq are told of nowhere: nothing is needed.
	twice := turn(func(g *impl.Log) { g.Used[3].Items = []impl.Item{dropItem(12, 5)} })
	isLive(t, "two of one Seq", twice, 0, 0, 0, 0, 0, 0)
	gainsMost(t, "two of one Seq", twice, 0, 7, 6, 4, 3, 2, 0)
	twice.Freed = []int{0}
	isLive(t, "two of one Seq, one of them Freed", twice, 44, 36, 0, 0, 0, 36)
	isLive(t, "201 items", turn(func(g *impl.Log) { g.Used[3].Items = manySeqs(201) }), 0, 0, 0, 0, 0, 0)
	// More that is needed than a segment has room for gains nothing.
	over := impl.Store{Log: impl.Log{Used: []impl.Seg{{No: 1, Gen: 1, Items: []impl.Item{
		boxItem(1, 1, 1, "ann", "inbox"), addItem(2, 1, 1, 0, bodyOf(100)), addItem(3, 1, 2, 0, bodyOf(100)), addItem(4, 1, 3, 0, bodyOf(100)),
	}}, {No: 2, Gen: 100}}}}
	isLive(t, "more than fits", over, 368, 0)
	gainsMost(t, "more than fits", over, -1, (256-368)*100/(256+368), 0)
	// What is Freed is told by No: the head is, too, and two of one No.
	isLive(t, "the head Freed", dirtyStore(2), 44, 36, 15, 0, 0, 0)
	gainsMost(t, "the head Freed", dirtyStore(2), 0, 4, 4, 3, 3, 2, 0)
	same := turn(func(g *impl.Log) { g.Used[2].No = 4 })
	same.Freed = []int{4}
	gainsMost(t, "two of one No Freed", same, 1, 0, 5, 0, 3, 2, 0)
	gainsMost(t, "one Freed twice, and none", dirtyStore(7, 4, 7, -1, 55), 1, 0, 5, 0, 3, 2, 0)
}

func TestCleanSegWithACodeIsAsItWas(t *testing.T) {
	full := filledStore(t, 5, 5, 30)
	full.Log = logWithHead(t, full.Log)
	for _, s := range []impl.Store{full, dirtyStore(0), {}} {
		for _, i := range placesToTry(s) {
			got, code := cleans(t, "a code", s, i)
			if code != 0 && !alikeStores(got, s) {
				t.Errorf("place %d: the code is %d, but not as it was: %s", i, code, tellStore(got))
			}
		}
	}
	// One item fits in the head, the next one does not: none is taken out.
	notCleaned(t, "one of two fits", full, 1, impl.CodeFull)
}

// logWithHead is a full log whose second segment has two items that are
// needed, of which the first one alone fits in the head.
func logWithHead(t *testing.T, g impl.Log) impl.Log {
	t.Helper()
	used := slices.Clone(g.Used)
	used[1] = segOf(used[1].No, used[1].Gen, addItem(20, 1, 1, 0, "a"), addItem(21, 1, 2, 0, "b"))
	out := checkedLog(logOn(g.Disk, used...))
	isRightStore(t, "a full one", impl.Store{Log: out})
	return out
}

// Where what lay behind the head has the sum of another one, that one is read,
// too: the log is not right then, and takes no more.
func TestCleanSegAheadOfWhatIsAnotherOnes(t *testing.T) {
	box, mail := boxItem(1, 1, 1, "ann", "inbox"), addItem(2, 1, 1, 0, "a")
	behind := itemAsSaid(dropItem(77, 1), 6)
	s := storeOf(t, 6, segOf(3, 4, box), segOf(5, 5, mail, goneItem(3, 1, 4)), segOf(1, 6))
	head := s.Log.Used[2]
	for size, first := range map[int]int{23: 0, 16: 1} {
		s.Log.Disk = putAsSaid(storeOf(t, 6, s.Log.Used...).Log.Disk, 1, head.End+size, behind)
		isRightStore(t, "what lay there", s)
		if first == 0 {
			got, code := cleans(t, "one is appended", s, 0)
			if code != 0 || !slices.Equal(got.Freed, []int{3}) {
				t.Errorf("one is appended: %d, %s", code, tellStore(got))
			}
			refusesStore(t, "one is appended", got)
			notCleaned(t, "one is appended", got, 1, impl.CodeNo)
			continue
		}
		notCleaned(t, "two are to be appended", s, 1, impl.CodeFull)
	}
}

// Whatever the power leaves of a cleaning, all is told as before.
func TestACrashWithinACleaningIsNotSeen(t *testing.T) {
	for what, s := range map[string]impl.Store{"in the head": dirtyStore(), "in a new head": filledStore(t, 7, 3, 30)} {
		for i := range len(s.Log.Used) - 1 {
			after, code := cleans(t, what, s, i)
			if code != 0 {
				t.Fatalf("%s: the code is %d", what, code)
			}
			at := len(s.Log.Used) - 1
			now := s
			for _, x := range itemsIn(after.Log.Used[at:])[len(s.Log.Used[at].Items):] {
				head := now.Log.Used[len(now.Log.Used)-1]
				if head.End+len(itemAsSaid(x, head.Gen)) > impl.SegSize {
					now.Log, _ = opens(t, what, now.Log, 0)
					risesAs(t, what+", a new head", now)
					head = now.Log.Used[len(now.Log.Used)-1]
				}
				waiting := waitsAtEnd(t, now.Log.Disk, head, x)
				crashesBetween(t, fmt.Sprint(what, ", place ", i), waiting, impl.StateNow(s), impl.StateNow(s))
				now.Log, _ = appends(t, what, now.Log, x, 0)
			}
			if !sameDisk(now.Log.Disk, after.Log.Disk) {
				t.Errorf("%s, place %d: another disk", what, i)
			}
			c := checkOfAsSaid(impl.Log{Used: keptOf(after), Stamp: after.Log.Stamp, NextGen: after.Log.NextGen, NextSeq: after.Log.NextSeq, NextValid: after.Log.NextValid})
			waiting, _ := impl.WriteBytes(after.Log.Disk, 4*(c.Stamp%2), 0, checkAsSaid(c))
			crashesBetween(t, fmt.Sprint(what, ", fixed, place ", i), waiting, impl.StateNow(s), impl.StateNow(s))
		}
	}
}

// cleanedLife is one step of a drawn life, and whether it told something.
func cleanedLife(t *testing.T, d *drawing, s impl.Store, seen map[string]int) impl.Store {
	t.Helper()
	got, code, what := s, 0, "done"
	switch way := d.below(20); {
	case way == 0:
		what = "fixed"
		got, _ = fixesStore(t, what, s)
	case way == 1:
		what = "risen"
		got, _ = rises(t, what, s.Log.Disk)
	case way <= 4:
		what = "stepped"
		got, code = steps(t, what, s)
	case way <= 7:
		what = "cleaned"
		got, code = cleans(t, what, s, d.below(len(s.Log.Used)+2)-1)
	default:
		got, code = does(t, what, s, drawnRec(d, s))
		seen[fmt.Sprint(what, " ", code)]++
		return got
	}
	seen[fmt.Sprint(what, " ", code)]++
	if toldAsBefore(t, what, s, got); code != 0 && !alikeStores(got, s) {
		t.Errorf("%s: the code is %d, but not as it was: %s", what, code, tellStore(got))
	}
	if code == 0 && (what == "stepped" || what == "cleaned") {
		no := got.Freed[slices.IndexFunc(got.Freed, func(n int) bool { return !slices.Contains(s.Freed, n) })]
		wasCleaned(t, what, s, got, no)
	}
	return got
}

// Promise 13, in drawn lives.
func TestWhatIsCleanedIsToldAsBefore(t *testing.T) {
	seen := map[string]int{}
	for seed := range 16 {
		d := drawing(900 + seed)
		s := newStore(t, impl.MinSegs+seed%7)
		for range 110 {
			s = cleanedLife(t, &d, s, seen)
			looksAsSaid(t, "a drawn life", s)
			tellsNow(t, "a drawn life", s)
			isRightStore(t, "a drawn life", s)
			if t.Failed() {
				t.Fatalf("seed %d", seed)
			}
		}
	}
	for what, least := range map[string]int{"done 0": 500, "done 2": 20, "stepped 0": 60, "stepped 1": 20, "stepped 2": 3, "cleaned 0": 40, "cleaned 1": 50, "cleaned 2": 1, "fixed 0": 50, "risen 0": 50} {
		if seen[what] < least {
			t.Errorf("%s: %d times, of %v", what, seen[what], seen)
		}
	}
}

// Stores of drawn items: what is told of each of their segments.
func TestLiveOfDrawnStores(t *testing.T) {
	d, right := drawing(77), 0
	for range 600 {
		list := d.twice(d.items(4 + d.below(24)))
		used := []impl.Seg{}
		for gen := d.of(1, 100, 125); len(list) > 0; gen += 1 + d.below(3) {
			n := min(len(list), 1+d.below(7))
			used, list = append(used, impl.Seg{No: len(used) * 4 % 11, Gen: gen, Items: list[:n]}), list[n:]
		}
		for i, x := range used {
			used[i] = segOf(x.No, x.Gen, x.Items...)
		}
		s := impl.Store{Log: impl.Log{Used: used}}
		fits := len(used) < impl.MaxSegs && !slices.ContainsFunc(used, func(x impl.Seg) bool { return x.End > impl.SegSize })
		if fits && greatest(itemsIn(used), func(x impl.Item) int { return x.Seq }) < impl.MaxNumber {
			s = impl.Store{Log: checkedLog(logWith(11, used...))}
		}
		for range 3 {
			looksAsSaid(t, "drawn", s)
			i := d.below(len(used))
			got, code := cleans(t, "drawn", s, i)
			if code == 0 {
				right++
				wasCleaned(t, "drawn", s, got, used[i].No)
				s = got
				continue
			}
			s.Freed = append(slices.Clone(s.Freed), used[i].No)
		}
		if t.Failed() {
			t.FailNow()
		}
	}
	if right < 100 {
		t.Errorf("just %d were cleaned", right)
	}
}

// answersOfCleaning is every store that the chapter's functions make of one.
func answersOfCleaning(s impl.Store) []impl.Store {
	out := []impl.Store{}
	for i := -1; i <= len(s.Log.Used); i++ {
		cleaned, _ := impl.CleanSeg(s, i)
		out = append(out, cleaned)
		impl.LiveOf(s, i)
		impl.GainOf(s, i)
	}
	impl.VictimOf(s)
	stepped, _ := impl.CleanStep(s)
	return append(out, stepped)
}

func TestNoStoreIsWrittenOnByCleaning(t *testing.T) {
	full := filledStore(t, 5, 5, 30)
	full.Log = logWithHead(t, full.Log)
	for what, plain := range map[string]impl.Store{
		"dirty": dirtyStore(), "one Freed": dirtyStore(0), "two Freed": dirtyStore(0, 7), "wrong Freed": dirtyStore(7, 0, 1), "new": newStore(t, 5),
		"full": full, "a new head": filledStore(t, 8, 3, 20), "spared": sparedStore(4), "nothing": {}, "Freed alone": {Freed: []int{1, 2}},
		"wrong numbers": {Log: turned(func(g *impl.Log) { g.NextSeq = 0 }), Freed: []int{0}}, "wrong Items": {Log: turned(func(g *impl.Log) { g.Used[1].Items = plainItems() })},
		"a write that waits": {Log: turned(func(g *impl.Log) { g.Disk.Cache = cacheOf(3, 9) })},
	} {
		s := roomyStore(plain)
		before := fullStore(s)
		first, second, third := answersOfCleaning(s), answersOfCleaning(s), answersOfCleaning(s)
		texts := textsOfLog(s.Log)
		for _, answer := range slices.Concat(first, second) {
			texts = append(texts, textsOfLog(answer.Log)...)
		}
		noneOfManyShared(t, what, texts)
		for i, answer := range first {
			listsOfTheirOwn(t, what, third[i].Log)
			if !alikeStores(answer, second[i]) {
				t.Errorf("%s: answer %d is another one the next time", what, i)
			}
			kept := fullStore(second[i])
			scribbleStore(answer)
			if !alikeStores(fullStore(second[i]), kept) {
				t.Errorf("%s: two answers share memory", what)
			}
		}
		if !alikeStores(fullStore(s), before) || !alikeStores(s, plain) {
			t.Errorf("%s: the store handed in is written on", what)
		}
	}
}

// One store may be cleaned by many at once: each is answered as if alone.
func TestAStoreIsCleanedByManyAtOnce(t *testing.T) {
	s := dirtyStore(0)
	want, _ := cleanAsSaid(s, 4)
	step, _ := cleanAsSaid(s, victimAsSaid(s))
	wrong := make([]bool, 24)
	var all sync.WaitGroup
	for i := range wrong {
		all.Go(func() {
			got, code := impl.CleanSeg(s, 4)
			stepped, is := impl.CleanStep(s)
			wrong[i] = code != 0 || !alikeStores(got, want) || is != 0 || !alikeStores(stepped, step) || impl.LiveOf(s, 0) != 44 || impl.GainOf(s, 0) != 4
		})
	}
	all.Wait()
	if slices.Contains(wrong, true) {
		t.Errorf("one of many is told something else: %v", wrong)
	}
}
