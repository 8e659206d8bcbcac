package tests

import (
	"fmt"
	"math"
	"math/big"
	"slices"
	"sync"
	"testing"

	"loop.example/g00287/impl"
)

// liveBytesAsSaid and the two below are the document's own words.
func liveBytesAsSaid(s impl.Store) int {
	sum := 0
	for i := range s.Log.Used {
		sum += liveAsSaid(s, i)
	}
	return sum
}

func recSizeAsSaid(r impl.Rec) int {
	if !recRightAsSaid(r) {
		return 0
	}
	return len(itemAsSaid(impl.Item{Seq: 1000000000, Rec: r}, 1000000000))
}

func roomyAsSaid(s impl.Store, r impl.Rec) bool {
	boxes := len(stateAsSaid(itemsIn(s.Log.Used)).Boxes)
	// Of a log that is not right the limit may be no int.
	most := new(big.Int).Sub(big.NewInt(int64(s.Log.Segs)), big.NewInt(5))
	most.Mul(most, big.NewInt(80))
	return big.NewInt(int64(liveBytesAsSaid(s)+recSizeAsSaid(r)+40*boxes)).Cmp(most) <= 0
}

// hasRoomAsSaid tells whether MakeRoom has nothing to do.
func hasRoomAsSaid(s impl.Store, size int) bool {
	used, g := s.Log.Used, s.Log
	// No more than so many of its segments are in use.
	g.Segs = min(g.Segs, len(used)+3)
	return len(freeAsSaid(g)) > 2 || len(used) > 0 && size <= 256-used[len(used)-1].End
}

// roundAsSaid is one round of MakeRoom, in the document's own words; false
// when nothing can be done.
func roundAsSaid(s impl.Store) (impl.Store, bool) {
	if len(s.Freed) > 0 {
		return fixStoreAsSaid(s)
	}
	at, least := -1, 0
	for i := range s.Log.Used {
		if live := liveAsSaid(s, i); cleansAt(s, i) && (at < 0 || live < least) {
			at, least = i, live
		}
	}
	got, code := cleanAsSaid(s, at)
	return got, code == 0
}

// makeAsSaid is the document's own words, and how many rounds there were.
func makeAsSaid(s impl.Store, size int) (impl.Store, int) {
	rounds := 0
	for rounds < 4*s.Log.Segs && !hasRoomAsSaid(s, size) {
		next, ok := roundAsSaid(s)
		if !ok {
			break
		}
		s, rounds = next, rounds+1
	}
	return s, rounds
}

// weighs asks for LiveBytes and Roomy as the document says them, and that the
// store is as it was.
func weighs(t *testing.T, what string, s impl.Store, list ...impl.Rec) {
	t.Helper()
	before := copyOfStore(s)
	if got, want := impl.LiveBytes(s), liveBytesAsSaid(s); got != want {
		t.Errorf("%s: LiveBytes is %d, not %d: %s", what, got, want, tellStore(s))
	}
	for _, r := range list {
		if got, want := impl.Roomy(s, r), roomyAsSaid(s, r); got != want {
			t.Errorf("%s: Roomy for %+v is %v, not %v: %s", what, r, got, want, tellStore(s))
		}
	}
	if !alikeStores(s, before) {
		t.Errorf("%s: the store handed in is written on", what)
	}
}

// weighsBytes asks for LiveBytes, spelt out.
func weighsBytes(t *testing.T, what string, s impl.Store, want int) {
	t.Helper()
	weighs(t, what, s, recsToTry()...)
	if got := impl.LiveBytes(s); got != want {
		t.Errorf("%s: LiveBytes is %d, not %d", what, got, want)
	}
}

// isRoomy asks for Roomy, spelt out.
func isRoomy(t *testing.T, what string, s impl.Store, r impl.Rec, want bool) {
	t.Helper()
	weighs(t, what, s, r)
	if got := impl.Roomy(s, r); got != want {
		t.Errorf("%s: Roomy for %+v is %v: %s", what, r, got, tellStore(s))
	}
}

// makes asks for the answer as the document says it, that the store that was
// handed in is as it was, and for promise 14: all is told as before, and comes
// up.
func makes(t *testing.T, what string, s impl.Store, size int) (impl.Store, int) {
	t.Helper()
	before := copyOfStore(s)
	want, rounds := makeAsSaid(s, size)
	got := impl.MakeRoom(s, size)
	if !alikeStores(got, want) {
		t.Errorf("%s: MakeRoom for %d is %s; not %s", what, size, tellStore(got), tellStore(want))
	}
	if !alikeStores(s, before) {
		t.Errorf("%s: the store handed in is written on", what)
	}
	if rounds > 0 && storeRightAsSaid(want) {
		isRightStore(t, what, got)
		tellsNow(t, what, got)
		toldAsBefore(t, what, s, got)
		risen, _ := rises(t, what, got.Log.Disk)
		toldAsBefore(t, what+", risen", s, risen)
		risesAs(t, what, got)
	}
	return got, rounds
}

// isMade asks for so many rounds, and that there is room then for a record of
// this size.
func isMade(t *testing.T, what string, s impl.Store, size int, want int) impl.Store {
	t.Helper()
	got, rounds := makes(t, what, s, size)
	if rounds != want || !hasRoomAsSaid(got, size) {
		t.Errorf("%s: behind %d rounds, not %d, for %d bytes: %s", what, rounds, want, size, tellStore(got))
	}
	if rounds == 0 && !alikeStores(got, s) {
		t.Errorf("%s: there was room, but not as it was: %s", what, tellStore(got))
	}
	return got
}

// isMadeFor asks for so many rounds, and that the record is done then.
func isMadeFor(t *testing.T, what string, s impl.Store, r impl.Rec, want int) impl.Store {
	t.Helper()
	return done(t, what, isMade(t, what, s, impl.RecSize(r), want), r)
}

// staysSo asks that all is as it was.
func staysSo(t *testing.T, what string, s impl.Store, sizes ...int) {
	t.Helper()
	for _, size := range sizes {
		got, rounds := makes(t, what, s, size)
		if rounds != 0 || !alikeStores(got, s) {
			t.Errorf("%s: not as it was, for %d bytes: %s", what, size, tellStore(got))
		}
	}
}

// isLeft asks for what can be done alone: so many rounds, behind which there is
// no room, and MakeRoom leaves all as it is.
func isLeft(t *testing.T, what string, s impl.Store, size int, want int) impl.Store {
	t.Helper()
	got, rounds := makes(t, what, s, size)
	if rounds != want || hasRoomAsSaid(got, size) {
		t.Errorf("%s: behind %d rounds, not %d, for %d bytes: %s", what, rounds, want, size, tellStore(got))
	}
	staysSo(t, what+", again", got, size)
	return got
}

// sizesToTry are sizes of records, and some that are none.
func sizesToTry() []int {
	return []int{math.MinInt, math.MinInt + 255, -1 << 32, -257, -1, 0, 1, 15, 125, 246, 247, 256, 257, 1 << 32, math.MaxInt - 255, math.MaxInt}
}

// mailsOf are mails of the box 1, from this Uid on, of so many bytes together
// (none, or 15 at least) in a segment of a Gen up to 127.
func mailsOf(bytes, uid int) []impl.Item {
	out := []impl.Item{}
	for bytes > 0 {
		n := min(bytes, 110)
		if rest := bytes - n; rest > 0 && rest < 15 {
			n -= 15
		}
		out = append(out, addItem(uid+1, 1, uid, 0, bodyOf(n-15)))
		uid, bytes = uid+1, bytes-n
	}
	return out
}

// liveStore has segments of which so many bytes are needed, each with a No one
// less than the one ahead; in the head is the box, and what is not needed, but
// for so many bytes that are left.
func liveStore(t *testing.T, segs, left int, lives ...int) impl.Store {
	t.Helper()
	used, uid := []impl.Seg{}, 1
	for i, live := range lives {
		items := []impl.Item{}
		if i == len(lives)-1 {
			items, live = append(items, boxItem(1, 1, 1, "ann", "inbox")), live-23
		}
		mails := mailsOf(live, uid)
		items, uid = append(items, mails...), uid+len(mails)
		used = append(used, segOf(segs-1-i, 2+i, items...))
	}
	head := &used[len(used)-1]
	for _, x := range mailsOf(impl.SegSize-left-head.End, 1) {
		x.Seq, x.Rec.Valid = x.Seq+60, 90
		*head = segOf(head.No, head.Gen, append(head.Items, x)...)
	}
	s := storeOf(t, segs, used...)
	isLive(t, "so many bytes", s, lives...)
	if head.End != impl.SegSize-left {
		t.Fatalf("%d bytes are left, not %d", impl.SegSize-head.End, left)
	}
	return s
}

// neededStore has so many segments in use, all of them full of what is needed.
func neededStore(t *testing.T, segs, used int) impl.Store {
	t.Helper()
	return liveStore(t, segs, 0, slices.Repeat([]int{246}, used)...)
}

// keptStore has so many boxes, and so many bytes that are needed.
func keptStore(t *testing.T, segs, boxes, live int) impl.Store {
	t.Helper()
	head := []impl.Item{}
	for i := range boxes {
		head = append(head, boxItem(100+i, 1+i, 1, []string{"ann", "bob", "cid"}[i], "inbox"))
	}
	used, items := []impl.Seg{}, []impl.Item{}
	for _, x := range mailsOf(live-23*boxes, 1) {
		if segOf(0, 2, append(items, x)...).End > impl.SegSize {
			used, items = append(used, segOf(segs-1-len(used), 2+len(used), items...)), nil
		}
		items = append(items, x)
	}
	used = append(used, segOf(segs-1-len(used), 2+len(used), items...))
	s := storeOf(t, segs, append(used, segOf(0, 2+len(used), head...))...)
	if got := impl.LiveBytes(s); got != live || len(impl.StateNow(s).Boxes) != boxes {
		t.Fatalf("%d bytes are needed, not %d: %s", got, live, tellStore(s))
	}
	return s
}

func TestLiveBytes(t *testing.T) {
	for segs := impl.MinSegs; segs <= impl.MaxSegs; segs++ {
		weighsBytes(t, "a new one", newStore(t, segs), 0)
	}
	s := newStore(t, 6)
	for _, c := range []struct {
		what string
		r    impl.Rec
		want int
	}{
		{"a box", makeRec(1, "ann", "inbox"), 23}, {"a mail", addRec(1, 1, 0, "hi"), 40}, {"a long mail", addRec(1, 2, 0, bodyOf(100)), 155},
		{"a flag", flagRec(1, 1, 3), 170}, {"a flag in its place", flagRec(1, 1, 2), 170}, {"a mail went", goneItem(0, 1, 2).Rec, 70},
		{"another box", makeRec(2, "bob", "old"), 91}, {"it is dropped", dropItem(0, 2).Rec, 85}, {"the first one is dropped", dropItem(0, 1).Rec, 30},
	} {
		s = done(t, c.what, s, c.r)
		weighsBytes(t, c.what, s, c.want)
	}
	// All, some and none of what lies in several segments is needed.
	weighsBytes(t, "all", neededStore(t, 7, 5), 5*246)
	weighsBytes(t, "all, in one", neededStore(t, 5, 1), 246)
	weighsBytes(t, "some", dirtyStore(), 44+36+36)
	weighsBytes(t, "some", liveStore(t, 8, 100, 0, 15, 100, 246, 0, 60), 15+100+246+60)
	weighsBytes(t, "a box alone", filledStore(t, 8, 6, 0), 23)
	none := storeOf(t, 6, segOf(3, 2, dropItem(1, 4), flagItem(2, 5, 1, 1)), segOf(0, 3), segOf(1, 4, goneItem(3, 5, 1), addItem(4, 6, 1, 0, "a")))
	weighsBytes(t, "none", none, 0)
	// The last segment counts, too, and so does each of many.
	weighsBytes(t, "the head alone", storeOf(t, 6, segOf(3, 2), segOf(1, 3, sizedItems(t, 200)...)), 200)
	weighsBytes(t, "the first one alone", storeOf(t, 6, segOf(3, 2, sizedItems(t, 200)...), segOf(1, 3)), 200)
	weighsBytes(t, "a long Gen", storeOf(t, 6, segOf(3, 200, sizedItems(t, 100)...), segOf(1, 20000, addItem(90, 1, 90, 0, "a"))), 100+len(sizedItems(t, 100))+16+2)
	weighsBytes(t, "nothing", impl.Store{}, 0)
}

func TestLiveBytesWithFreed(t *testing.T) {
	// Whatever is needed of what is Freed lies elsewhere, too.
	weighsBytes(t, "nothing Freed", sparedStore(), 44+21+21+15)
	weighsBytes(t, "one without items", sparedStore(0), 44+21+21+15)
	weighsBytes(t, "one whose items lie elsewhere, too", sparedStore(4), 44+21+21+15)
	weighsBytes(t, "both", sparedStore(0, 4), 44+21+21+15)
	weighsBytes(t, "one without items", dirtyStore(0), 44+36+36)
	// What a Freed one made needed is not needed any more.
	s := storeOf(t, 6, segOf(3, 2, addItem(2, 1, 1, 0, "a")), segOf(1, 3, goneItem(3, 1, 1)), segOf(5, 6, boxItem(1, 1, 3, "ann", "inbox")))
	weighsBytes(t, "that a mail went", s, 15+23)
	s.Freed = []int{3}
	weighsBytes(t, "that a mail went which lies in a Freed one", s, 23)
	// A cleaning turns nothing of it, but for what is not needed any more.
	for i, want := range []int{116, 116 - 15, 116, 116, 116} {
		cleaned, _ := cleans(t, "cleaned", dirtyStore(), i)
		weighsBytes(t, fmt.Sprint("place ", i, " cleaned"), cleaned, want)
		fixed, _ := fixesStore(t, "fixed", cleaned)
		if impl.LiveBytes(fixed) > want {
			t.Errorf("place %d cleaned and fixed: %d", i, impl.LiveBytes(fixed))
		}
	}
}

func TestRecSize(t *testing.T) {
	for _, c := range []struct {
		r    impl.Rec
		want int
	}{
		{makeRec(1, "a", "a"), 25}, {makeRec(1, "ann", "inbox"), 31}, {makeRec(127, "ann", "inbox"), 31}, {makeRec(128, "ann", "inbox"), 32},
		{boxItem(0, impl.MaxValid, impl.MaxValid+1, "abcdefgh", "abcdefgh").Rec, 41},
		{dropItem(0, 1).Rec, 23}, {dropItem(0, impl.MaxValid).Rec, 24},
		{addRec(1, 1, 0, ""), 23}, {addRec(1, 1, 7, "hi"), 25}, {addRec(1, 200, 0, "hi"), 26}, {addRec(200, 200, 0, "hi"), 27}, {addRec(1, 1, 0, bodyOf(99)), 122}, {addRec(1, 1, 0, bodyOf(100)), 123},
		{addRec(impl.MaxValid, impl.MaxValid, 7, bodyOf(100)), 125},
		{flagRec(1, 1, 0), 23}, {flagRec(300, 1, 7), 24}, {flagRec(impl.MaxValid, impl.MaxValid, 7), 25},
		{goneItem(0, 1, 1).Rec, 23}, {goneItem(0, 1, 128).Rec, 24}, {goneItem(0, impl.MaxValid, impl.MaxValid).Rec, 25},
		{impl.Rec{}, 0}, {impl.Rec{Kind: impl.RecDrop}, 0}, {addRec(1, 1, 0, bodyOf(101)), 0}, {addRec(1, 1, 8, ""), 0}, {addRec(1, impl.MaxValid+1, 0, ""), 0},
		{boxItem(0, 1, impl.MaxValid+2, "ann", "inbox").Rec, 0}, {makeRec(1, "ann", "abcdefghi"), 0}, {makeRec(impl.MaxValid+1, "ann", "inbox"), 0}, {flagRec(0, 1, 1), 0}, {goneItem(0, 1, 0).Rec, 0},
	} {
		if got := impl.RecSize(c.r); got != c.want {
			t.Errorf("RecSize of %+v is %d, not %d", c.r, got, c.want)
		}
	}
}

// No frame of the record is longer, and the one of the greatest numbers is as
// long.
func TestRecSizeIsTheGreatest(t *testing.T) {
	for _, r := range rightRecs() {
		got := impl.RecSize(r)
		if got != recSizeAsSaid(r) || got < 23 || got > 125 {
			t.Errorf("RecSize of %+v is %d, not %d", r, got, recSizeAsSaid(r))
		}
		for _, n := range []int{1, 127, 128, 20000, 1 << 28, impl.MaxNumber - 1, impl.MaxNumber} {
			f, ok := impl.ItemFrame(impl.Item{Seq: n, Rec: r}, n)
			if size := impl.FrameSize(f); !ok || size > got || size == got != (n >= 1<<28) {
				t.Errorf("RecSize of %+v is %d, of numbers of %d it is %d", r, got, n, size)
			}
		}
	}
	for _, r := range wrongRecs() {
		if got := impl.RecSize(r); got != 0 {
			t.Errorf("RecSize of %#v, which is not right, is %d", r, got)
		}
	}
}

// A mail of n bytes has a RecSize of 23 and n.
func TestRoomyOfNewStores(t *testing.T) {
	for segs := impl.MinSegs; segs <= impl.MaxSegs; segs++ {
		s, most := newStore(t, segs), 80*(segs-5)
		for n := range 101 {
			isRoomy(t, fmt.Sprint("a new one of ", segs, ", ", n), s, addRec(1, 1, 0, bodyOf(n)), 23+n <= most)
		}
		isRoomy(t, "a new one, no record", s, impl.Rec{}, true)
	}
	isRoomy(t, "five segments", newStore(t, 5), makeRec(1, "a", "a"), false)
	isRoomy(t, "six segments", newStore(t, 6), makeRec(1, "a", "a"), true)
	isRoomy(t, "six segments, 57 bytes", newStore(t, 6), addRec(1, 1, 0, bodyOf(57)), true)
	isRoomy(t, "six segments, 58 bytes", newStore(t, 6), addRec(1, 1, 0, bodyOf(58)), false)
	isRoomy(t, "six segments, the longest record", newStore(t, 6), addRec(impl.MaxValid, impl.MaxValid, 7, bodyOf(100)), false)
	isRoomy(t, "seven segments, the longest record", newStore(t, 7), addRec(impl.MaxValid, impl.MaxValid, 7, bodyOf(100)), true)
	isRoomy(t, "nothing", impl.Store{}, impl.Rec{}, false)
	// Whether the record fits what is told is not asked.
	isRoomy(t, "no box to drop", newStore(t, 6), dropItem(0, 4).Rec, true)
}

// Sums that are just at most what may be, and one above: by one byte of the
// record, by one byte that is needed, and by one box.
func TestRoomyAtTheLimit(t *testing.T) {
	tried := 0
	for segs := 6; segs <= impl.MaxSegs; segs++ {
		for boxes := range 4 {
			if boxes == 0 && segs > 6 {
				continue
			}
			for n := range 100 {
				live := 80*(segs-5) - 40*boxes - (23 + n)
				if rest := live - 23*boxes; boxes == 0 && live != 0 || rest != 0 && rest < 15 {
					continue
				}
				tried++
				what := fmt.Sprintf("%d segments, %d boxes, %d bytes", segs, boxes, live)
				s := keptStore(t, segs, boxes, live)
				isRoomy(t, what, s, addRec(1, 1, 0, bodyOf(n)), true)
				isRoomy(t, what+", a byte less", s, addRec(1, 1, 0, bodyOf(max(n-1, 0))), true)
				isRoomy(t, what+", a byte more", s, addRec(1, 1, 0, bodyOf(n+1)), false)
				s.Log.Segs--
				isRoomy(t, what+", a segment less", s, addRec(1, 1, 0, bodyOf(n)), false)
				s.Log.Segs += 2
				isRoomy(t, what+", a segment more", s, addRec(1, 1, 0, bodyOf(n)), true)
				if rest := live - 23*boxes; boxes > 0 && rest >= 15 {
					isRoomy(t, what+", a byte more that is needed", keptStore(t, segs, boxes, live+1), addRec(1, 1, 0, bodyOf(n)), false)
				}
			}
		}
	}
	if tried < 900 {
		t.Errorf("just %d are at the limit", tried)
	}
	// A box more: its 23 bytes and 40.
	for more := range 64 {
		s := done(t, "one box", newStore(t, 7), makeRec(1, "ann", "inbox"))
		n := 160 - 23 - 40 - 23 - 63 + more
		isRoomy(t, "one box", s, addRec(1, 1, 0, bodyOf(n)), true)
		isRoomy(t, "two boxes", done(t, "two boxes", s, makeRec(2, "bob", "inbox")), addRec(1, 1, 0, bodyOf(n)), more == 0)
	}
}

// A box whose mails all went tells its Next still: it counts with 40 bytes, as
// any other one.
func TestRoomyOfBoxesThatTellTheirNext(t *testing.T) {
	s := done(t, "boxes", newStore(t, 8), makeRec(1, "ann", "inbox"), makeRec(2, "bob", "inbox"), addRec(1, 1, 0, "a"), addRec(2, 1, 0, "b"), goneItem(0, 1, 1).Rec, goneItem(0, 2, 1).Rec)
	weighsBytes(t, "mails that went", s, 4*19)
	// 240 bytes less 76 and 80.
	isRoomy(t, "mails that went, just so", s, addRec(1, 2, 0, bodyOf(84-23)), true)
	isRoomy(t, "mails that went, one above", s, addRec(1, 2, 0, bodyOf(85-23)), false)
	boxes := storeOf(t, 8, segOf(5, 2, goneItem(5, 1, 40), goneItem(6, 2, 20)), segOf(4, 3, boxItem(1, 1, 1, "ann", "inbox"), boxItem(2, 2, 1, "bob", "inbox")))
	tellsBoxes(t, "their Next", boxes, impl.Box{Valid: 1, User: "ann", Name: "inbox", Next: 41}, impl.Box{Valid: 2, User: "bob", Name: "inbox", Next: 21})
	weighsBytes(t, "their Next", boxes, 46)
	isRoomy(t, "their Next, just so", boxes, addRec(1, 41, 0, bodyOf(240-46-80-23)), true)
	isRoomy(t, "their Next, one above", boxes, addRec(1, 41, 0, bodyOf(240-46-80-22)), false)
	// A box that was dropped is none.
	dropped := done(t, "a drop", boxes, dropItem(0, 2).Rec)
	weighsBytes(t, "a drop", dropped, 23+15)
	isRoomy(t, "a drop", dropped, addRec(1, 41, 0, bodyOf(100)), true)
	isRoomy(t, "a drop, less a segment", impl.Store{Log: withSegs(dropped.Log, 7)}, addRec(1, 41, 0, bodyOf(160-38-40-23)), true)
	isRoomy(t, "a drop, less a segment, one above", impl.Store{Log: withSegs(dropped.Log, 7)}, addRec(1, 41, 0, bodyOf(160-38-40-22)), false)
	// Without a box nothing but what is needed counts.
	none := storeOf(t, 6, segOf(5, 2, boxItem(1, 1, 1, "ann", "inbox"), dropItem(2, 1)), segOf(4, 3, flagItem(3, 7, 1, 1)))
	weighsBytes(t, "without a box", none, 15)
	isRoomy(t, "without a box, just so", none, addRec(1, 1, 0, bodyOf(80-15-23)), true)
	isRoomy(t, "without a box, one above", none, addRec(1, 1, 0, bodyOf(80-15-22)), false)
}

// withSegs is the log on a disk of so many segments.
func withSegs(g impl.Log, segs int) impl.Log {
	g.Segs = segs
	return g
}

// Freed ones count for nothing of what is needed, but for what is told.
func TestRoomyWithFreed(t *testing.T) {
	for _, freed := range [][]int{nil, {0}, {4}, {0, 4}} {
		// 101 bytes, two boxes, 160 bytes in all.
		s := sparedStore(freed...)
		s.Log.Segs = 8
		isRoomy(t, fmt.Sprint("Freed ", freed), s, addRec(1, 2, 0, bodyOf(240-101-80-23)), true)
		isRoomy(t, fmt.Sprint("Freed ", freed, ", one above"), s, addRec(1, 2, 0, bodyOf(240-101-80-22)), false)
	}
	weighs(t, "dirty", dirtyStore(0, 7), recsToTry()...)
}

// A store that has room is as it was: by more free segments than the reserve,
// or in its head.
func TestMakeRoomOfWhatHasRoom(t *testing.T) {
	for segs := impl.MinSegs; segs <= impl.MaxSegs; segs++ {
		staysSo(t, "a new one", newStore(t, segs), sizesToTry()...)
		staysSo(t, "a life", done(t, "a life", newStore(t, segs), makeRec(1, "ann", "inbox"), addRec(1, 1, 0, bodyOf(100))), sizesToTry()...)
		for used := 1; used <= segs; used++ {
			for _, left := range []int{0, 15, 100} {
				s, what := filledStore(t, segs, used, left), fmt.Sprintf("%d of %d in use, %d bytes left", used, segs, left)
				staysSo(t, what, s, math.MinInt, -257, -1, 0, left-1, left)
				if segs-used > impl.Reserve {
					staysSo(t, what, s, sizesToTry()...)
				} else if got := impl.MakeRoom(s, left+1); alikeStores(got, s) {
					t.Errorf("%s: as it was, for %d bytes", what, left+1)
				}
			}
		}
	}
	// What is Freed stays so, as long as there is room.
	s := filledStore(t, 6, 4, 50)
	s.Freed = []int{s.Log.Used[1].No}
	staysSo(t, "room in the head, one Freed", s, -1, 0, 50)
	s = filledStore(t, 7, 4, 0)
	s.Freed = []int{s.Log.Used[1].No, s.Log.Used[2].No}
	slices.Sort(s.Freed)
	staysSo(t, "segments that are free, two Freed", s, sizesToTry()...)
	staysSo(t, "dirty", dirtyStore(0, 7), sizesToTry()...)
}

// Just the reserve is free, and the head has no room: so many bytes, and one
// byte less.
func TestMakeRoomAtTheEdges(t *testing.T) {
	for segs := impl.MinSegs; segs <= impl.MaxSegs; segs++ {
		for _, left := range []int{0, 1, 22, 23, 31, 32, 100, 125, 200} {
			what := fmt.Sprintf("%d segments, %d bytes left", segs, left)
			s := filledStore(t, segs, segs-2, left)
			isMade(t, what+", just so many", s, left, 0)
			more := isMade(t, what+", one more", s, left+1, 2)
			if free := impl.FreeSegs(more.Log); len(free) != 3 || more.Log.Stamp != 2 || len(more.Freed) > 0 {
				t.Errorf("%s: %s", what, tellStore(more))
			}
			isMade(t, what+", more than a segment", s, 257, 2)
			isMade(t, what+", one free above the reserve", filledStore(t, segs, segs-3, left), 257, 0)
			// One segment more in use is one more to be cleaned.
			isMade(t, what+", one free", filledStore(t, segs, segs-1, left), left+1, 4)
			isMade(t, what+", none free", filledStore(t, segs, segs, left), left+1, 6)
		}
	}
}

// What is Freed is set free by a check alone.
func TestMakeRoomByACheck(t *testing.T) {
	for segs := impl.MinSegs; segs <= impl.MaxSegs; segs++ {
		s := filledStore(t, segs, segs-2, 10)
		no := s.Log.Used[1].No
		s.Freed = []int{no}
		got := isMade(t, "one Freed", s, 11, 1)
		if !slices.Contains(impl.FreeSegs(got.Log), no) || got.Log.Stamp != 2 || len(got.Log.Used) != segs-3 || got.Log.NextGen != s.Log.NextGen || got.Log.NextSeq != s.Log.NextSeq {
			t.Errorf("one Freed: %s", tellStore(got))
		}
		isFixed(t, "one Freed", s, slices.DeleteFunc(nosOf(s.Log), func(n int) bool { return n == no }))
		isMadeFor(t, "one Freed", s, addRec(1, 9, 0, bodyOf(100)), 1)
		// Two of a store in which none is free: it is cleaned behind the check.
		s = filledStore(t, segs, segs, 10)
		s.Freed = []int{s.Log.Used[2].No, s.Log.Used[1].No}
		got = isMade(t, "two Freed", s, 11, 3)
		if got.Log.Stamp != 3 || len(got.Log.Used) != segs-3 || len(got.Freed) > 0 {
			t.Errorf("two Freed: %s", tellStore(got))
		}
	}
	s := sparedStore(0, 4)
	s.Log = checkedLog(s.Log)
	staysSo(t, "two Freed, three free", s, sizesToTry()...)
	six := storeOf(t, 6, segOf(4, 3, sizedItems(t, 200)...), segOf(2, 4), segOf(0, 5), segOf(5, 9, addItem(30, 90, 1, 0, bodyOf(100)), addItem(31, 90, 2, 0, bodyOf(100))))
	six.Freed = []int{0, 2}
	got := isMade(t, "two Freed, two free", six, 100, 1)
	logTold(t, "two Freed, two free", got.Log, []int{4, 5}, []int{3, 9}, []int{3, 2}, 10, 32, 91, 2)
}

// nosOf are the segments in use, in order.
func nosOf(g impl.Log) []int {
	out := []int{}
	for _, x := range g.Used {
		out = append(out, x.No)
	}
	return out
}

// Segments are cleaned, once and again and again, each with a check behind it.
func TestMakeRoomByCleaning(t *testing.T) {
	s := liveStore(t, 6, 0, 200, 30, 100, 23)
	once := isMade(t, "once, a new head", s, 100, 1)
	logTold(t, "once, a new head", once.Log, []int{5, 4, 3, 2, 0}, []int{2, 3, 4, 5, 6}, []int{2, 1, 1, 4, 1}, 7, 65, 91, 1)
	if !slices.Equal(once.Freed, []int{4}) || once.Log.Used[4].End != 40 {
		t.Errorf("once: %s", tellStore(once))
	}
	isMade(t, "once, to the last byte", s, 216, 1)
	// A check sets free one; the next one that is cleaned is the old head.
	twice := isMade(t, "once and again", s, 217, 4)
	logTold(t, "once and again", twice.Log, []int{5, 3, 0}, []int{2, 4, 6}, []int{2, 1, 2}, 7, 65, 91, 3)
	if twice.Log.Used[2].End != 63 || len(twice.Freed) > 0 {
		t.Errorf("once and again: %s", tellStore(twice))
	}
	isMade(t, "once and again, more than any segment", s, 257, 4)
	isMade(t, "once and again, the greatest size", s, math.MaxInt, 4)
	// In the head there is room for what is needed, but not for the size.
	s = liveStore(t, 6, 50, 30, 40, 60, 23)
	got := isMade(t, "into the head", s, 51, 2)
	logTold(t, "into the head", got.Log, []int{4, 3, 2}, []int{3, 4, 5}, []int{1, 1, 4}, 6, 64, 91, 2)
	isMade(t, "into the head, to the last byte", liveStore(t, 6, 30, 30, 40, 60, 23), 31, 2)
	isMade(t, "not into the head", liveStore(t, 6, 29, 30, 40, 60, 23), 30, 1)
	// Again and again, until three are free.
	s = liveStore(t, 9, 0, 40, 50, 60, 70, 80, 90, 100, 110, 23)
	if len(impl.FreeSegs(s.Log)) != 0 {
		t.Fatalf("one is free: %s", tellStore(s))
	}
	staysSo(t, "none is free", s, 1)
	s = liveStore(t, 9, 40, 40, 50, 60, 70, 80, 90, 100, 110, 23)
	got = isMade(t, "again and again", s, 220, 8)
	if len(impl.FreeSegs(got.Log)) != 3 || got.Log.Stamp != 5 || got.Log.NextGen != 12 {
		t.Errorf("again and again: %s", tellStore(got))
	}
	logTold(t, "again and again", got.Log, []int{5, 4, 3, 2, 1, 8}, []int{5, 6, 7, 8, 9, 11}, []int{1, 1, 1, 1, 1, 4}, 12, 64, 91, 5)
}

// cleanedOf are those in use before that are Freed, or in use no more.
func cleanedOf(before, after impl.Store) []int {
	return slices.DeleteFunc(nosOf(before.Log), func(no int) bool {
		return slices.Contains(nosOf(after.Log), no) && !slices.Contains(after.Freed, no)
	})
}

// cleansJust asks for so many rounds, in which the segment at this place alone
// is cleaned.
func cleansJust(t *testing.T, what string, s impl.Store, size, rounds, place int) {
	t.Helper()
	got := isMade(t, what, s, size, rounds)
	if list := cleanedOf(s, got); !slices.Equal(list, []int{s.Log.Used[place].No}) {
		t.Errorf("%s: %v are cleaned, not that at place %d: %s", what, list, place, tellStore(s))
	}
}

// The one with the least that is needed is cleaned, of like ones the first.
func TestMakeRoomCleansTheLeast(t *testing.T) {
	sizes := []int{30, 30, 90, 160}
	for list := range ordersOf([]impl.Item{{Seq: 0}, {Seq: 1}, {Seq: 2}, {Seq: 3}}) {
		lives := []int{}
		for _, x := range list {
			lives = append(lives, sizes[x.Seq])
		}
		cleansJust(t, fmt.Sprint("of ", lives), liveStore(t, 7, 20, append(lives, 23)...), 21, 1, slices.Index(lives, 30))
	}
	for what, c := range map[string]struct {
		lives         []int
		rounds, place int
	}{
		"all alike":                        {[]int{50, 50, 50, 50, 50}, 1, 0},
		"of none is anything needed":       {[]int{0, 0, 0, 0, 23}, 2, 0},
		"the last one but the head":        {[]int{50, 50, 50, 49, 246}, 1, 3},
		"not the head, though it has less": {[]int{90, 80, 100, 95, 23}, 1, 1},
		"not the head, as it has as much":  {[]int{90, 80, 70, 95, 70}, 1, 2},
		"one of which nothing is needed":   {[]int{50, 15, 0, 15, 23}, 2, 2},
		"one behind full ones":             {[]int{246, 246, 246, 231, 246}, 1, 3},
	} {
		cleansJust(t, what, liveStore(t, 7, 0, c.lives...), 1, c.rounds, c.place)
	}
	// What is gained is not asked: the oldest one would gain most.
	head := append(sizedItems(t, 100), addItem(60, 90, 1, 0, bodyOf(100)), dropItem(61, 91))
	s := storeOf(t, 5, segOf(3, 2, addItem(50, 1, 20, 0, bodyOf(30))), segOf(1, 90, addItem(51, 1, 21, 0, bodyOf(29))), segOf(0, 91, head...))
	gainsMost(t, "the oldest one", s, 0, 63, 1, 0)
	cleansJust(t, "the one with the least", s, 17, 1, 1)
	// Of one that needs a Next to be told just its items count.
	s = storeOf(t, 5, segOf(3, 2, flagItem(50, 1, 1, 1)), segOf(1, 3, goneItem(51, 1, 40)), segOf(0, 4, head...))
	isLive(t, "a Next to be told", s, 15, 0, 100)
	cleansJust(t, "a Next to be told", s, 17, 1, 1)
}

// Where all is needed no round makes room: there are 4 times as many as
// segments, and no more.
func TestMakeRoomEnds(t *testing.T) {
	for segs := impl.MinSegs; segs <= impl.MaxSegs; segs++ {
		s := neededStore(t, segs, segs-2)
		for _, size := range []int{1, 257, math.MaxInt} {
			got, rounds := makes(t, "all is needed", s, size)
			if rounds != 4*segs || hasRoomAsSaid(got, size) || len(got.Freed) > 0 || len(got.Log.Used) != segs-2 || got.Log.Stamp != 1+2*segs || got.Log.NextGen != s.Log.NextGen+2*segs {
				t.Errorf("all is needed, for %d bytes, behind %d rounds: %s", size, rounds, tellStore(got))
			}
			if next, ok := roundAsSaid(got); !ok || alikeStores(next, got) {
				t.Errorf("all is needed, for %d bytes: one more could not be done", size)
			}
			weighsBytes(t, "all is needed", got, 246*(segs-2))
			refused(t, "all is needed", got, makeRec(got.Log.NextValid, "bob", "inbox"), impl.CodeFull)
			isRoomy(t, "all is needed", got, makeRec(got.Log.NextValid, "bob", "inbox"), false)
		}
		staysSo(t, "all is needed", s, math.MinInt, -1, 0)
		// The last round is a cleaning, where the first one is a check.
		s = impl.Store{Log: checkedLog(logOn(s.Log.Disk, slices.Insert(slices.Clone(s.Log.Used), 0, segOf(0, 1))...)), Freed: []int{0}}
		isRightStore(t, "one is Freed", s)
		got, rounds := makes(t, "one is Freed", s, 1)
		if rounds != 4*segs || len(got.Freed) != 1 || got.Log.Stamp != 1+2*segs || got.Log.NextGen != s.Log.NextGen+2*segs {
			t.Errorf("one is Freed, behind %d rounds: %s", rounds, tellStore(got))
		}
	}
}

// A cleaning for which there is no room: all is as it is from there on.
func TestMakeRoomThatIsFull(t *testing.T) {
	for segs := impl.MinSegs; segs <= impl.MaxSegs; segs++ {
		s := neededStore(t, segs, segs)
		staysSo(t, "all is full", s, sizesToTry()...)
		notCleaned(t, "all is full", s, 0, impl.CodeFull)
		// Just so many bytes are left, and one less.
		lives := append(slices.Repeat([]int{200}, segs-1), 23)
		staysSo(t, "not for what is needed", liveStore(t, segs, 199, lives...), 200, 257)
		got, rounds := makes(t, "for what is needed", liveStore(t, segs, 200, lives...), 201)
		if rounds < 2 || got.Log.Stamp < 2 {
			t.Errorf("for what is needed, behind %d rounds: %s", rounds, tellStore(got))
		}
		lives[2] = 60
		staysSo(t, "not for the least", liveStore(t, segs, 59, lives...), 60, 257)
	}
	with := func(s impl.Store, nextGen, nextSeq int) impl.Store {
		s.Log.NextGen, s.Log.NextSeq = nextGen, nextSeq
		s.Log = checkedLog(s.Log)
		isRightStore(t, "great numbers", s)
		return s
	}
	// One is set free, and then there is no Gen to give.
	top := impl.MaxNumber
	s := with(liveStore(t, 5, 0, 200, 0, 210, 23), top, 65)
	got := isLeft(t, "no Gen", s, 1, 2)
	logTold(t, "no Gen", got.Log, []int{4, 2, 1}, []int{2, 4, 5}, []int{2, 2, 4}, top, 65, 91, 2)
	s.Freed = []int{3}
	got = isLeft(t, "no Gen, one Freed", s, 1, 1)
	logTold(t, "no Gen, one Freed", got.Log, []int{4, 2, 1}, []int{2, 4, 5}, []int{2, 2, 4}, top, 65, 91, 2)
	isMade(t, "a Gen", with(liveStore(t, 5, 0, 200, 0, 210, 23), top-1, 65), 1, 3)
	// No Seq to give: what needs none is cleaned still.
	head := []impl.Item{addItem(60, 90, 1, 0, bodyOf(100)), addItem(61, 90, 2, 0, bodyOf(100))}
	s = storeOf(t, 5, segOf(3, 2, sizedItems(t, 200)...), segOf(1, 3, goneItem(90, 1, 77)), segOf(0, 4, head...))
	staysSo(t, "a Next to be told, and no Seq", with(s, 5, top), 17, 257)
	isMade(t, "a Next to be told, and a Seq", with(s, 5, top-1), 17, 1)
	s = storeOf(t, 5, segOf(3, 2, sizedItems(t, 200)...), segOf(1, 3, goneItem(90, 1, 1)), segOf(0, 4, head...))
	isMade(t, "none to be told, and no Seq", with(s, 5, top), 17, 2)
}

// A check that can't be written, as there is no Stamp to give: all is as it is
// from there on.
func TestMakeRoomWithoutACheck(t *testing.T) {
	top := impl.MaxNumber
	with := func(s impl.Store, stamp int, freed ...int) impl.Store {
		s.Log.Stamp, s.Freed = stamp, freed
		s.Log.Disk = checkedLog(s.Log).Disk
		isRightStore(t, "a great Stamp", s)
		return s
	}
	for segs := impl.MinSegs; segs <= impl.MaxSegs; segs++ {
		s := filledStore(t, segs, segs-2, 10)
		no := s.Log.Used[1].No
		staysSo(t, "no Stamp, one Freed", with(s, top, no), sizesToTry()...)
		got := isLeft(t, "no Stamp", with(s, top), 11, 1)
		if !slices.Equal(got.Freed, []int{no}) || len(got.Log.Used) != segs-2 {
			t.Errorf("no Stamp: %s", tellStore(got))
		}
		isMade(t, "a Stamp, one Freed", with(s, top-1, no), 11, 1)
		if got := isMade(t, "a Stamp", with(s, top-1), 11, 2); got.Log.Stamp != top {
			t.Errorf("a Stamp: %s", tellStore(got))
		}
		s = filledStore(t, segs, segs, 10)
		got = isLeft(t, "one Stamp of three", with(s, top-1), 11, 3)
		if got.Log.Stamp != top || len(got.Freed) != 1 || len(impl.FreeSegs(got.Log)) != 1 {
			t.Errorf("one Stamp of three: %s", tellStore(got))
		}
		isLeft(t, "two Stamps of three", with(s, top-2), 11, 5)
		isMade(t, "three Stamps", with(s, top-3), 11, 6)
		// All but the head are Freed: none can be cleaned, either.
		used := []impl.Seg{}
		for i := range segs - 3 {
			used = append(used, segOf(i, 2+i))
		}
		used = append(used, segOf(segs-1, segs, addItem(60, 90, 1, 0, bodyOf(100)), addItem(61, 90, 2, 0, bodyOf(100))))
		s = storeOf(t, segs, used...)
		all := nosOf(s.Log)[:segs-3]
		staysSo(t, "all Freed", with(s, top, all...), sizesToTry()...)
		staysSo(t, "all Freed", with(s, top, all...), 16, 17)
		if got := isMade(t, "all Freed, and a Stamp", with(s, top-1, all...), 17, 1); len(got.Log.Used) != 1 {
			t.Errorf("all Freed, and a Stamp: %s", tellStore(got))
		}
	}
}

// Where what lay behind the head has the sum of another one, that one is read,
// too, behind a cleaning: the log is not right then, and no check is written.
func TestMakeRoomAheadOfWhatIsAnotherOnes(t *testing.T) {
	s := liveStore(t, 5, 60, 30, 200, 23)
	head := s.Log.Used[2]
	s.Log.Disk = putAsSaid(s.Log.Disk, head.No, head.End+30, itemAsSaid(dropItem(77, 50), head.Gen))
	isRightStore(t, "what lay there", s)
	got, rounds := makes(t, "what lay there", s, 61)
	if rounds != 1 || !slices.Equal(got.Freed, []int{4}) {
		t.Errorf("what lay there, behind %d rounds: %s", rounds, tellStore(got))
	}
	refusesStore(t, "what lay there", got)
	staysSo(t, "what lay there, again", got, 61, 257)
}

// Boxes whose mails all went tell their next number still, wherever it was
// told; no number is given twice.
func TestMakeRoomOfBoxesThatTellTheirNext(t *testing.T) {
	told := []impl.Box{{Valid: 1, User: "ann", Name: "inbox", Next: 10}, {Valid: 2, User: "bob", Name: "inbox", Next: 6}, {Valid: 3, User: "cid", Name: "old", Next: 8}}
	parts := [][]impl.Item{
		{boxItem(1, 1, 1, "ann", "inbox"), boxItem(2, 2, 1, "bob", "inbox"), boxItem(3, 3, 8, "cid", "old")},
		{addItem(4, 1, 9, 0, "a"), addItem(5, 2, 4, 0, "b"), goneItem(6, 2, 5)},
		{goneItem(7, 1, 9), goneItem(8, 2, 4), goneItem(9, 3, 3)},
	}
	for list := range ordersOf([]impl.Item{{Seq: 0}, {Seq: 1}, {Seq: 2}}) {
		used := []impl.Seg{}
		for i, x := range list {
			used = append(used, segOf(i, 2+i, parts[x.Seq]...))
		}
		s := storeOf(t, 6, append(used, segOf(5, 6, addItem(60, 90, 1, 0, bodyOf(100)), addItem(61, 90, 2, 0, bodyOf(93)), dropItem(62, 91)))...)
		tellsBoxes(t, "mails that went", s, told...)
		for n := range 8 {
			what := fmt.Sprintf("segment %d first, %d times", list[0].Seq, n)
			got, rounds := makes(t, what, s, 257)
			if tellsBoxes(t, what, got, told...); rounds == 0 && n < 3 {
				t.Errorf("%s: there was room", what)
			}
			for i, b := range told {
				refused(t, what, got, addRec(b.Valid, b.Next-1, 0, "x"), impl.CodeNo)
				after := isMadeFor(t, what, got, addRec(b.Valid, b.Next, 0, "x"), 0)
				if is := impl.StateNow(after).Boxes[i]; is.Next != b.Next+1 || len(is.Mails) != 1 {
					t.Errorf("%s: %+v", what, is)
				}
			}
			s = got
			s.Log, _ = opens(t, what, s.Log, 0)
		}
		// The boxes alone are left.
		weighsBytes(t, "the boxes alone", s, 23+23+21)
	}
}

// Stores that are not right stay as they are, for every size.
func TestMakeRoomOfWrongStores(t *testing.T) {
	for what, s := range wrongStores() {
		weighs(t, what, s, recsToTry()...)
		staysSo(t, what, s, sizesToTry()...)
	}
	// With and without room, each field of the log that is not right.
	for what, turn := range map[string]func(s *impl.Store){
		"right":                    func(s *impl.Store) {},
		"no Stamp":                 func(s *impl.Store) { s.Log.Stamp = 0 },
		"a Stamp too great":        func(s *impl.Store) { s.Log.Stamp = impl.MaxNumber + 1 },
		"no NextGen":               func(s *impl.Store) { s.Log.NextGen = 0 },
		"a NextSeq that was given": func(s *impl.Store) { s.Log.NextSeq = 50 },
		"no NextValid":             func(s *impl.Store) { s.Log.NextValid = 0 },
		"no Segs":                  func(s *impl.Store) { s.Log.Segs = 0 },
		"Segs of one less":         func(s *impl.Store) { s.Log.Segs-- },
		"Segs below 0":             func(s *impl.Store) { s.Log.Segs = -s.Log.Segs },
		"a head too many":          func(s *impl.Store) { s.Log.Used = append(s.Log.Used, segOf(0, 90)) },
		"a head twice":             func(s *impl.Store) { s.Log.Used = append(s.Log.Used, s.Log.Used[3]) },
		"nothing Used":             func(s *impl.Store) { s.Log.Used = nil },
		"an End too far":           func(s *impl.Store) { s.Log.Used[3].End = 257 },
		"an End below 0":           func(s *impl.Store) { s.Log.Used[3].End = -1 },
		"the least End":            func(s *impl.Store) { s.Log.Used[3].End = math.MinInt },
		"the greatest End":         func(s *impl.Store) { s.Log.Used[3].End = math.MaxInt },
		"a Gen too many":           func(s *impl.Store) { s.Log.Used[2].Gen++ },
		"another No":               func(s *impl.Store) { s.Log.Used[1].No = s.Log.Used[2].No },
		"another item":             func(s *impl.Store) { s.Log.Used[0].Items[0].Rec.Next++ },
		"a write that waits":       func(s *impl.Store) { s.Log.Disk.Cache = cacheOf(1, 9) },
		"no disk":                  func(s *impl.Store) { s.Log.Disk = impl.Disk{} },
		"the head Freed":           func(s *impl.Store) { s.Freed = []int{s.Log.Used[3].No} },
		"one Freed that is needed": func(s *impl.Store) { s.Freed = []int{s.Log.Used[0].No} },
		"one Freed that is free":   func(s *impl.Store) { s.Freed = []int{0} },
		"one Freed that is none":   func(s *impl.Store) { s.Freed = []int{-1} },
		"one Freed twice":          func(s *impl.Store) { s.Freed = slices.Repeat([]int{s.Log.Used[1].No}, 2) },
		"Freed that descend":       func(s *impl.Store) { s.Freed = []int{s.Log.Used[1].No, s.Log.Used[2].No} },
	} {
		s := filledStore(t, 6, 4, 10)
		s.Log = copyOfLog(s.Log)
		turn(&s)
		weighs(t, what, s, recsToTry()...)
		if what == "right" {
			isMade(t, what, s, 11, 2)
			continue
		}
		refusesStore(t, what, s)
		staysSo(t, what, s, sizesToTry()...)
	}
}

// Segs that are far off: nothing is gone through that often.
func TestRoomOfManySegs(t *testing.T) {
	for _, c := range []struct {
		segs int
		want bool
	}{
		{math.MinInt, false}, {math.MinInt + 5, false}, {-1 << 60, false}, {-1 << 32, false}, {-1, false}, {4, false}, {5, false}, {7, true},
		{1 << 32, true}, {1 << 57, true}, {1 << 58, true}, {1 << 60, true}, {1<<62 + 5, true}, {math.MaxInt/80 + 5, true}, {math.MaxInt/80 + 6, true}, {math.MaxInt - 5, true}, {math.MaxInt, true},
	} {
		s := filledStore(t, 6, 4, 10)
		s.Log.Segs = c.segs
		before := copyOfStore(s)
		if got := impl.Roomy(s, addRec(1, 9, 0, "a")); got != c.want || impl.LiveBytes(s) != 23 {
			t.Errorf("%d segments: Roomy is %v", c.segs, got)
		}
		for _, size := range sizesToTry() {
			if got := impl.MakeRoom(s, size); !alikeStores(got, before) || !alikeStores(s, before) {
				t.Errorf("%d segments, for %d bytes: not as it was: %s", c.segs, size, tellStore(got))
			}
		}
		s.Log.Used = nil
		if got := impl.MakeRoom(s, 1); !alikeStores(got, s) {
			t.Errorf("%d segments, none Used: not as it was: %s", c.segs, tellStore(got))
		}
	}
}

// Boxes in which mails come and go, as often as it may be: there is always
// room, though it must be made, and no number is given twice.
func TestMakeRoomForALife(t *testing.T) {
	for segs, users := range map[int][]string{6: {"ann"}, 7: {"ann"}, 9: {"ann", "bob"}, 11: {"ann", "bob", "cid"}} {
		s, rounds, roomy := newStore(t, segs), 0, 0
		step := func(r impl.Rec) {
			t.Helper()
			room, n := makes(t, "a life", s, impl.RecSize(r))
			next, code := does(t, "a life", room, r)
			if n > 0 && impl.Roomy(s, r) {
				roomy++
			}
			if rounds += n; code != 0 {
				t.Fatalf("%d segments: %+v has the code %d: %s", segs, r, code, tellStore(room))
			}
			s = next
		}
		for i, user := range users {
			step(makeRec(1+i, user, "inbox"))
		}
		last := 12 / len(users)
		for n := 1; n <= last; n++ {
			for i := range users {
				step(addRec(1+i, n, 0, bodyOf(n%7*3)))
				for flags := range 16 {
					step(flagRec(1+i, n, flags%8))
				}
				step(goneItem(0, 1+i, n).Rec)
			}
		}
		for i, b := range impl.StateNow(s).Boxes {
			if b.User != users[i] || b.Next != last+1 || len(b.Mails) > 0 {
				t.Errorf("%d segments: %+v", segs, b)
			}
		}
		// With six segments a box and any record are more than may be.
		if risesAs(t, "a life", s); rounds < 10 || roomy == 0 && segs > 6 {
			t.Errorf("%d segments: just %d rounds, %d Roomy", segs, rounds, roomy)
		}
	}
}

// lightRec is drawn so that little is needed of what is told: mostly Flags that
// are turned again and again.
func lightRec(d *drawing, s impl.Store) impl.Rec {
	boxes := stateAsSaid(itemsIn(s.Log.Used)).Boxes
	for _, b := range boxes {
		for _, m := range b.Mails {
			switch way := d.below(20); {
			case way < 13:
				return flagRec(b.Valid, m.Uid, d.below(8))
			case way < 15:
				return goneItem(0, b.Valid, m.Uid).Rec
			}
		}
		if len(boxes) > 1 && d.below(3) == 0 {
			return dropItem(0, b.Valid).Rec
		}
	}
	r := drawnRec(d, s)
	if r.Kind == impl.RecAdd {
		r.Text = r.Text[:min(len(r.Text), 20)]
	}
	return r
}

// Promise 14, in drawn lives: as long as what is needed leaves room, a record
// can be done behind MakeRoom; and what it makes is what the document says.
func TestWhatIsRoomyCanBeDone(t *testing.T) {
	seen := map[string]int{}
	for seed := range 11 {
		d := drawing(1400 + seed)
		segs, draw, steps := impl.MinSegs+seed, drawnRec, 120
		if segs > impl.MaxSegs {
			segs, draw, steps = impl.MaxSegs+7-seed, lightRec, 250
		}
		s := newStore(t, segs)
		for range steps {
			what := fmt.Sprint("seed ", seed)
			switch d.below(20) {
			case 0:
				s, _ = cleans(t, what, s, d.below(len(s.Log.Used)))
			case 1:
				s, _ = rises(t, what, s.Log.Disk)
			case 2:
				s, _ = makes(t, what, s, d.of(-1, 0, 15, 60, 125, 200, 246, 247, 257, 1000))
			default:
				r := draw(&d, s)
				weighs(t, what, s, r)
				roomy, fits := impl.Roomy(s, r), impl.Fitting(impl.StateNow(s), s.Log.NextValid, r)
				room, rounds := makes(t, what, s, impl.RecSize(r))
				next, code := does(t, what, room, r)
				if fits && roomy && code != 0 || fits == (code == impl.CodeNo) {
					t.Errorf("%s: %+v fits: %v, is Roomy: %v, but its code is %d: %s", what, r, fits, roomy, code, tellStore(room))
				}
				seen[fmt.Sprintf("roomy %v, code %d, rounds %v", roomy, code, rounds > 0)]++
				s = next
			}
			if t.Failed() {
				t.FailNow()
			}
		}
	}
	for what, least := range map[string]int{
		"roomy true, code 0, rounds false": 200, "roomy true, code 0, rounds true": 15, "roomy true, code 1, rounds false": 50,
		"roomy false, code 0, rounds false": 200, "roomy false, code 0, rounds true": 20, "roomy false, code 2, rounds true": 1,
	} {
		if seen[what] < least {
			t.Errorf("%s: %d times, of %v", what, seen[what], seen)
		}
	}
}

// roomStores are stores of each way in which MakeRoom may end, with a size.
func roomStores(t *testing.T) map[string]sizedStore {
	freed, top := filledStore(t, 5, 3, 10), filledStore(t, 5, 3, 10)
	freed.Freed = []int{freed.Log.Used[1].No}
	top.Log.Stamp = impl.MaxNumber
	return map[string]sizedStore{
		"new": {newStore(t, 5), 50}, "dirty": {dirtyStore(), 257}, "two Freed": {dirtyStore(0, 7), 50}, "room in the head": {filledStore(t, 5, 3, 50), 50},
		"a check": {freed, 11}, "a cleaning": {filledStore(t, 5, 3, 10), 11}, "many cleanings": {filledStore(t, 6, 6, 10), 11}, "no Stamp": {top, 11},
		"a new head": {liveStore(t, 5, 0, 100, 60, 60), 40}, "4 times Segs": {neededStore(t, 5, 3), 1}, "full": {neededStore(t, 5, 5), 1},
		"nothing": {impl.Store{}, 1}, "Freed alone": {impl.Store{Freed: []int{1, 2}}, 1}, "wrong Freed": {dirtyStore(7, 0, 1), 257},
		"wrong numbers": {impl.Store{Log: turned(func(g *impl.Log) { g.NextSeq = 0 }), Freed: []int{0}}, 257},
		"wrong Items":   {impl.Store{Log: turned(func(g *impl.Log) { g.Used[1].Items = plainItems() })}, 257},
		"a write":       {impl.Store{Log: turned(func(g *impl.Log) { g.Disk.Cache = cacheOf(3, 9) })}, 257},
	}
}

type sizedStore struct {
	store impl.Store
	size  int
}

func TestNoStoreIsWrittenOnByMakingRoom(t *testing.T) {
	for what, c := range roomStores(t) {
		s := roomyStore(c.store)
		r, buffers := roomyRec(addRec(1, 2, 1, "some text"))
		before := fullStore(s)
		impl.LiveBytes(s)
		impl.Roomy(s, r)
		impl.RecSize(r)
		first, second, third := impl.MakeRoom(s, c.size), impl.MakeRoom(s, c.size), impl.MakeRoom(s, c.size)
		noneOfManyShared(t, what, slices.Concat(textsOfLog(s.Log), textsOfLog(first.Log), textsOfLog(second.Log), textsOfRecs([]impl.Rec{r})))
		listsOfTheirOwn(t, what, third.Log)
		if !alikeStores(first, second) {
			t.Errorf("%s: another one the next time", what)
		}
		kept := fullStore(second)
		scribbleStore(first)
		if !alikeStores(fullStore(second), kept) {
			t.Errorf("%s: two answers share memory", what)
		}
		if !alikeStores(fullStore(s), before) || !alikeStores(s, c.store) {
			t.Errorf("%s: the store handed in is written on", what)
		}
		if string(buffers[2]) != "some text"+"room behind it" {
			t.Errorf("%s: the record handed in is written on", what)
		}
	}
}

// Of one store room may be made by many at once: each is answered as if alone.
func TestRoomIsMadeByManyAtOnce(t *testing.T) {
	s := filledStore(t, 6, 6, 10)
	want, _ := makeAsSaid(s, 11)
	wrong := make([]bool, 24)
	var all sync.WaitGroup
	for i := range wrong {
		all.Go(func() {
			got := impl.MakeRoom(s, 11)
			wrong[i] = !alikeStores(got, want) || impl.LiveBytes(s) != 23 || impl.Roomy(s, addRec(1, 9, 0, "")) || impl.RecSize(addRec(1, 9, 0, "")) != 23
		})
	}
	all.Wait()
	if slices.Contains(wrong, true) {
		t.Errorf("one of many is told something else: %v", wrong)
	}
}
