package tests

import (
	"fmt"
	"math"
	"slices"
	"strings"
	"sync"
	"testing"

	"loop.example/g00287/impl"
)

// fittingAsSaid is the document's own words; of two boxes with one Valid the
// first one is the record's.
func fittingAsSaid(s impl.State, nextvalid int, r impl.Rec) bool {
	if !recRightAsSaid(r) {
		return false
	}
	theirs, named := 0, false
	for _, b := range s.Boxes {
		if b.User == r.User {
			theirs++
			named = named || b.Name == r.Name
		}
	}
	if r.Kind == 1 {
		return r.Valid == nextvalid && r.Next == 1 && !named && theirs < 3
	}
	for _, b := range s.Boxes {
		if b.Valid != r.Valid {
			continue
		}
		there := false
		for _, m := range b.Mails {
			there = there || m.Uid == r.Uid
		}
		return r.Kind == 2 || r.Kind == 3 && r.Uid == b.Next && r.Uid <= 9999 && len(b.Mails) < 8 || r.Kind >= 4 && there
	}
	return false
}

// namesRightAsSaid is what StateOk asks of a state that StateOf told: all else
// is so there.
func namesRightAsSaid(s impl.State) bool {
	for i, b := range s.Boxes {
		for _, other := range s.Boxes[:i] {
			if b.User == other.User && b.Name == other.Name {
				return false
			}
		}
	}
	return true
}

// keptOf are the segments in use that are not Freed.
func keptOf(s impl.Store) []impl.Seg {
	return slices.DeleteFunc(slices.Clone(s.Log.Used), func(x impl.Seg) bool { return slices.Contains(s.Freed, x.No) })
}

// storeRightAsSaid is the document's own words.
func storeRightAsSaid(s impl.Store) bool {
	if !logRightAsSaid(s.Log) {
		return false
	}
	for i, no := range s.Freed {
		at := slices.IndexFunc(s.Log.Used, func(x impl.Seg) bool { return x.No == no })
		if at < 0 || at == len(s.Log.Used)-1 || i > 0 && s.Freed[i-1] >= no {
			return false
		}
	}
	now := stateAsSaid(itemsIn(s.Log.Used))
	return namesRightAsSaid(now) && sameTold(stateAsSaid(itemsIn(keptOf(s))), now)
}

// doAsSaid is the document's own words.
func doAsSaid(s impl.Store, r impl.Rec) (impl.Store, int) {
	if !fittingAsSaid(stateAsSaid(itemsIn(s.Log.Used)), s.Log.NextValid, r) {
		return s, 1
	}
	if !logRightAsSaid(s.Log) {
		return s, 2
	}
	g, ok := appendAsSaid(s.Log, impl.Item{Seq: s.Log.NextSeq, Rec: r}, 2)
	if !ok {
		return s, 2
	}
	return impl.Store{Log: g, Freed: s.Freed}, 0
}

// fixStoreAsSaid is the document's own words.
func fixStoreAsSaid(s impl.Store) (impl.Store, bool) {
	if !storeRightAsSaid(s) {
		return s, false
	}
	g := s.Log
	g.Used = keptOf(s)
	c := checkOfAsSaid(g)
	d, ok := fixAsSaid(g.Disk, c)
	if !ok {
		return s, false
	}
	g.Disk, g.Stamp = d, c.Stamp
	return impl.Store{Log: g}, true
}

// riseAsSaid is the document's own words.
func riseAsSaid(d impl.Disk) (impl.Store, bool) {
	g, ok := recoverAsSaid(d)
	if s := (impl.Store{Log: g}); ok && storeRightAsSaid(s) {
		return s, true
	}
	return impl.Store{}, false
}

// alikeStores holds every field of two stores against each other.
func alikeStores(a, b impl.Store) bool {
	return alikeLogs(a.Log, b.Log) && slices.Equal(a.Freed, b.Freed)
}

func copyOfStore(s impl.Store) impl.Store {
	return impl.Store{Log: copyOfLog(s.Log), Freed: slices.Clone(s.Freed)}
}

func tellStore(s impl.Store) string {
	return fmt.Sprintf("%s, Freed %v", tellLog(s.Log), s.Freed)
}

// does asks for the answer as the document says it, and that the store that
// was handed in is as it was.
func does(t *testing.T, what string, s impl.Store, r impl.Rec) (impl.Store, int) {
	t.Helper()
	before := copyOfStore(s)
	want, code := doAsSaid(s, r)
	got, is := impl.DoRec(s, r)
	if is != code || !alikeStores(got, want) {
		t.Errorf("%s: DoRec of %+v is %d, %s; not %d, %s", what, r, is, tellStore(got), code, tellStore(want))
	}
	if !alikeStores(s, before) {
		t.Errorf("%s: the store handed in is written on", what)
	}
	return got, is
}

// done does each of these, and asks behind each that it is told, and that the
// store is right.
func done(t *testing.T, what string, s impl.Store, list ...impl.Rec) impl.Store {
	t.Helper()
	for _, r := range list {
		next, code := does(t, what, s, r)
		if code != 0 {
			t.Fatalf("%s: %+v has the code %d: %s", what, r, code, tellStore(s))
		}
		s = next
		tellsNow(t, what, s)
		isRightStore(t, what, s)
	}
	return s
}

// refused asks for a code, and that all is as it was.
func refused(t *testing.T, what string, s impl.Store, r impl.Rec, want int) {
	t.Helper()
	got, code := does(t, what, s, r)
	if code != want || !alikeStores(got, s) {
		t.Errorf("%s: %+v has the code %d, not %d: %s", what, r, code, want, tellStore(got))
	}
}

func tellsNow(t *testing.T, what string, s impl.Store) {
	t.Helper()
	before := copyOfStore(s)
	if got, want := impl.StateNow(s), stateAsSaid(itemsIn(s.Log.Used)); !sameTold(got, want) {
		t.Errorf("%s: StateNow is %+v, not %+v", what, got, want)
	}
	if !alikeStores(s, before) {
		t.Errorf("%s: StateNow writes on the store", what)
	}
}

// tellsBoxes asks for these boxes, spelt out.
func tellsBoxes(t *testing.T, what string, s impl.Store, boxes ...impl.Box) {
	t.Helper()
	tellsNow(t, what, s)
	if got := impl.StateNow(s); !sameTold(got, stateWith(boxes...)) {
		t.Errorf("%s: StateNow is %+v, not %+v", what, got, boxes)
	}
}

// isRightStore and refusesStore ask for StoreOk.
func isRightStore(t *testing.T, what string, s impl.Store) {
	t.Helper()
	if !impl.StoreOk(s) || !storeRightAsSaid(s) {
		t.Errorf("%s: not right: %s", what, tellStore(s))
	}
}

// What is not right can't be fixed, and stays as it is.
func refusesStore(t *testing.T, what string, s impl.Store) {
	t.Helper()
	before := copyOfStore(s)
	if impl.StoreOk(s) || storeRightAsSaid(s) {
		t.Errorf("%s: right: %s", what, tellStore(s))
	}
	if got, ok := fixesStore(t, what, s); ok || !alikeStores(got, before) {
		t.Errorf("%s: fixed: %s", what, tellStore(got))
	}
}

// fixesStore asks for the answer as the document says it.
func fixesStore(t *testing.T, what string, s impl.Store) (impl.Store, bool) {
	t.Helper()
	before := copyOfStore(s)
	want, right := fixStoreAsSaid(s)
	got, ok := impl.CheckStore(s)
	if ok != right || !alikeStores(got, want) {
		t.Errorf("%s: CheckStore is %v, %s; not %v, %s", what, ok, tellStore(got), right, tellStore(want))
	}
	if !alikeStores(s, before) {
		t.Errorf("%s: the store handed in is written on", what)
	}
	return got, ok
}

// rises asks for the answer as the document says it, and that the disk that
// was handed in is as it was.
func rises(t *testing.T, what string, d impl.Disk) (impl.Store, bool) {
	t.Helper()
	before := ofDisk(d)
	want, right := riseAsSaid(d)
	got, ok := impl.RiseStore(d)
	if ok != right || !alikeStores(got, want) {
		t.Errorf("%s: RiseStore is %v, %s; not %v, %s", what, ok, tellStore(got), right, tellStore(want))
	}
	if !sameDisk(d, before) {
		t.Errorf("%s: the disk handed in is written on", what)
	}
	return got, ok
}

// risesAs asks for this store, every field of it but Freed, of which nothing
// is fixed on a disk.
func risesAs(t *testing.T, what string, s impl.Store) {
	t.Helper()
	got, ok := rises(t, what, s.Log.Disk)
	if !ok || !alikeLogs(got.Log, s.Log) || len(got.Freed) > 0 || !impl.SameState(impl.StateNow(got), impl.StateNow(s)) {
		t.Errorf("%s: %v, %s comes up, not %s", what, ok, tellStore(got), tellStore(s))
	}
	isRightStore(t, what+", risen", got)
}

func risesNot(t *testing.T, what string, d impl.Disk) {
	t.Helper()
	if got, ok := rises(t, what, d); ok || !alikeStores(got, impl.Store{}) {
		t.Errorf("%s: %v, %s comes up", what, ok, tellStore(got))
	}
}

func newStore(t *testing.T, segs int) impl.Store {
	t.Helper()
	s, ok := impl.StoreNew(segs)
	if !ok {
		t.Fatalf("no store of %d segments", segs)
	}
	return s
}

func makeRec(valid int, user, name string) impl.Rec {
	return boxItem(0, valid, 1, user, name).Rec
}

func addRec(valid, uid, flags int, text string) impl.Rec {
	return addItem(0, valid, uid, flags, text).Rec
}

func flagRec(valid, uid, flags int) impl.Rec {
	return flagItem(0, valid, uid, flags).Rec
}

func TestStoreLimits(t *testing.T) {
	if impl.Reserve != 2 || impl.CodeNo != 1 || impl.CodeFull != 2 || impl.MaxMails != 8 || impl.MaxBoxes != 3 {
		t.Error("a limit or a code is not what the document says")
	}
}

func TestStoreNew(t *testing.T) {
	for segs := impl.MinSegs; segs <= impl.MaxSegs; segs++ {
		s, ok := impl.StoreNew(segs)
		if want := (impl.Store{Log: formatAsSaid(segs)}); !ok || !alikeStores(s, want) {
			t.Errorf("StoreNew(%d) is %v, %s, not %s", segs, ok, tellStore(s), tellStore(want))
		}
		isRightStore(t, "a new one", s)
		tellsBoxes(t, "a new one", s)
		risesAs(t, "a new one", s)
	}
}

func TestStoreNewRefuses(t *testing.T) {
	for _, segs := range []int{impl.MinSegs - 1, impl.MaxSegs + 1, 0, 1, 3, -1, -impl.MinSegs, 12, 100, 5 + 256, 5 + 1<<32, 1 << 61, math.MaxInt, math.MinInt} {
		if s, ok := impl.StoreNew(segs); ok || !alikeStores(s, impl.Store{}) {
			t.Errorf("StoreNew(%d) is %v, %s", segs, ok, tellStore(s))
		}
	}
}

// One store, from a new disk on: what is done is told, and comes up, fixed or
// not.
func TestDoRecOfAKnownLife(t *testing.T) {
	for segs := impl.MinSegs; segs <= impl.MaxSegs; segs++ {
		s := newStore(t, segs)
		step := func(r impl.Rec, nextSeq, nextValid int, boxes ...impl.Box) {
			t.Helper()
			s = done(t, "a known life", s, r)
			tellsBoxes(t, "a known life", s, boxes...)
			risesAs(t, "not fixed", s)
			if g := s.Log; g.NextSeq != nextSeq || g.NextValid != nextValid || g.Stamp != 1 || g.Segs != segs || len(s.Freed) > 0 {
				t.Fatalf("behind %+v: %s", r, tellStore(s))
			}
			if items := impl.ItemsOf(s.Log); items[len(items)-1] != (impl.Item{Seq: nextSeq - 1, Rec: r}) {
				t.Fatalf("the last one is %+v, not %+v", items[len(items)-1], r)
			}
		}
		inbox := impl.Box{Valid: 1, User: "ann", Name: "inbox", Next: 1}
		step(makeRec(1, "ann", "inbox"), 2, 2, inbox)
		inbox.Next, inbox.Mails = 2, []impl.Mail{{Uid: 1, Text: "hi"}}
		step(addRec(1, 1, 0, "hi"), 3, 2, inbox)
		inbox.Next, inbox.Mails = 3, []impl.Mail{{Uid: 1, Text: "hi"}, {Uid: 2, Flags: 5}}
		step(addRec(1, 2, 5, ""), 4, 2, inbox)
		inbox.Mails = []impl.Mail{{Uid: 1, Flags: 7, Text: "hi"}, {Uid: 2, Flags: 5}}
		step(flagRec(1, 1, 7), 5, 2, inbox)
		old := impl.Box{Valid: 2, User: "bob", Name: "old", Next: 1}
		step(makeRec(2, "bob", "old"), 6, 3, inbox, old)
		inbox.Mails = []impl.Mail{{Uid: 1, Flags: 7, Text: "hi"}, {Uid: 2}}
		step(flagRec(1, 2, 0), 7, 3, inbox, old)
		inbox.Mails = inbox.Mails[:1]
		step(goneItem(0, 1, 2).Rec, 8, 3, inbox, old)
		old.Next, old.Mails = 2, []impl.Mail{{Uid: 1, Flags: 1, Text: bodyOf(100)}}
		step(addRec(2, 1, 1, bodyOf(100)), 9, 3, inbox, old)
		inbox.Next, inbox.Mails = 4, []impl.Mail{{Uid: 1, Flags: 7, Text: "hi"}, {Uid: 3, Text: "more"}}
		step(addRec(1, 3, 0, "more"), 10, 3, inbox, old)
		step(dropItem(0, 1).Rec, 11, 3, old)
		again := impl.Box{Valid: 3, User: "ann", Name: "inbox", Next: 1}
		step(makeRec(3, "ann", "inbox"), 12, 4, old, again)
		fixed, ok := fixesStore(t, "a known life", s)
		if !ok || fixed.Log.Stamp != 2 || len(fixed.Log.Used) != 2 {
			t.Fatalf("fixed: %v, %s", ok, tellStore(fixed))
		}
		tellsBoxes(t, "fixed", fixed, old, again)
		risesAs(t, "fixed", fixed)
	}
}

func TestStateNow(t *testing.T) {
	want := stateWith(
		impl.Box{Valid: 1, User: "ann", Name: "inbox", Next: 2},
		impl.Box{Valid: 5, User: "bob", Name: "old", Next: 2, Mails: []impl.Mail{{Uid: 1, Flags: 7, Text: "to bob"}}})
	for _, freed := range [][]int{nil, {0}, {4}, {4, 0}, {6}, {-1, 99}} {
		tellsBoxes(t, fmt.Sprint("several, Freed ", freed), impl.Store{Log: severalLog(), Freed: freed}, want.Boxes...)
	}
	tellsBoxes(t, "nothing", impl.Store{})
	for what, g := range rightLogs() {
		tellsNow(t, what, impl.Store{Log: g})
	}
	// It does not ask whether the log is right, but for its items alone.
	for what, g := range wrongLogs() {
		tellsNow(t, what, impl.Store{Log: g, Freed: []int{0}})
	}
	tellsBoxes(t, "201 items", impl.Store{Log: impl.Log{Used: []impl.Seg{{Items: manySeqs(100)}, {Items: manySeqs(101)}}}})
	tellsBoxes(t, "two of one Seq", impl.Store{Log: impl.Log{Used: []impl.Seg{{Items: plainItems()}, {Items: []impl.Item{dropItem(6, 9)}}}}})
	tellsBoxes(t, "segments out of order", impl.Store{Log: impl.Log{Used: []impl.Seg{{Items: plainItems()[3:]}, {}, {Items: plainItems()[:3]}}}}, plainState().Boxes...)
}

// boxWith has Mails of Uids 1 to n, and Next behind them.
func boxWith(valid, n int, user, name string) impl.Box {
	b := impl.Box{Valid: valid, User: user, Name: name, Next: n + 1}
	for uid := range n {
		b.Mails = append(b.Mails, impl.Mail{Uid: uid + 1})
	}
	return b
}

// fits asks for Fitting, as it is told here and as the document says it, and
// that the state is as it was.
func fits(t *testing.T, what string, s impl.State, nextvalid int, r impl.Rec, want bool) {
	t.Helper()
	before := copyState(s)
	if got := impl.Fitting(s, nextvalid, r); got != want || got != fittingAsSaid(s, nextvalid, r) {
		t.Errorf("%s: Fitting of %+v, nextvalid %d, is %v: %+v", what, r, nextvalid, got, s)
	}
	if !sameTold(s, before) {
		t.Errorf("%s: the state handed in is written on", what)
	}
}

func TestFittingOfABox(t *testing.T) {
	// ann has MaxBoxes less 1, bob MaxBoxes, cid more than may be, dan none.
	s := stateWith(boxWith(1, 0, "ann", "inbox"), boxWith(2, 1, "bob", "inbox"), boxWith(3, 0, "ann", "old"),
		boxWith(4, 0, "bob", "a"), boxWith(5, 0, "bob", "b"),
		boxWith(6, 0, "cid", "a"), boxWith(7, 0, "cid", "b"), boxWith(8, 0, "cid", "c"), boxWith(9, 0, "cid", "d"))
	for _, c := range []struct {
		what, user, name string
		want             bool
	}{
		{"MaxBoxes less 1", "ann", "new", true},
		{"MaxBoxes less 1, a Name that another one has", "ann", "a", true},
		{"MaxBoxes less 1, its first box", "ann", "inbox", false},
		{"MaxBoxes less 1, its last box", "ann", "old", false},
		{"MaxBoxes", "bob", "new", false},
		{"MaxBoxes, one of its boxes", "bob", "b", false},
		{"more than MaxBoxes", "cid", "new", false},
		{"more than MaxBoxes, one of its boxes", "cid", "d", false},
		{"none", "dan", "inbox", true},
		{"none, a Name that all have", "dan", "a", true},
		{"a User that others begin with", "an", "inbox", true},
		{"a User that begins with another", "annn", "inbox", true},
		{"User and Name for each other", "inbox", "ann", true},
		{"words cut elsewhere", "anni", "nbox", true},
		{"a Name that another begins with", "ann", "ol", true},
		{"a Name that begins with another", "ann", "olds", true},
	} {
		fits(t, c.what, s, 10, makeRec(10, c.user, c.name), c.want)
	}
	for n := range 6 {
		few := impl.State{}
		for i := range n {
			few.Boxes = append(few.Boxes, boxWith(2*i+1, 0, "eve", string(rune('a'+i))), boxWith(2*i+2, 0, "bob", string(rune('a'+i))))
		}
		fits(t, fmt.Sprint(n, " boxes"), few, 99, makeRec(99, "eve", "new"), n < impl.MaxBoxes)
		fits(t, fmt.Sprint(n, " boxes of others"), few, 99, makeRec(99, "fay", "new"), true)
	}
	fits(t, "no boxes at all", impl.State{}, 1, makeRec(1, "ann", "inbox"), true)
}

func TestFittingOfABoxesNumbers(t *testing.T) {
	s := stateWith(boxWith(3, 0, "ann", "inbox"), boxWith(7, 0, "bob", "inbox"))
	for _, nextvalid := range []int{1, 2, 3, 7, 8, 127, 128, 5000, impl.MaxValid - 1, impl.MaxValid, impl.MaxValid + 1, impl.MaxNumber, 0, -1, math.MaxInt, math.MinInt} {
		for _, valid := range []int{nextvalid - 1, nextvalid, nextvalid + 1, 1, 3, 8, impl.MaxValid} {
			want := valid == nextvalid && 1 <= valid && valid <= impl.MaxValid
			fits(t, "a Valid", s, nextvalid, makeRec(valid, "ann", "new"), want)
		}
	}
	for _, next := range []int{1, 2, 3, 127, 128, impl.MaxValid, impl.MaxValid + 1, impl.MaxValid + 2, 0, -1, 1 << 32, 1<<32 + 1, math.MaxInt, math.MinInt} {
		fits(t, "a Next", s, 8, boxItem(0, 8, next, "ann", "new").Rec, next == 1)
	}
}

func TestFittingOfADrop(t *testing.T) {
	s := stateWith(boxWith(3, 0, "ann", "inbox"), boxWith(7, 2, "bob", "inbox"), boxWith(impl.MaxValid, 9, "bob", "old"))
	for valid, want := range map[int]bool{3: true, 7: true, impl.MaxValid: true, 1: false, 2: false, 4: false, 6: false, 8: false, impl.MaxValid - 1: false, impl.MaxValid + 1: false, 0: false, -3: false} {
		for _, nextvalid := range []int{1, valid, 8, impl.MaxValid + 1, -1} {
			fits(t, "a drop", s, nextvalid, dropItem(0, valid).Rec, want)
		}
	}
	fits(t, "of nothing", impl.State{}, 1, dropItem(0, 1).Rec, false)
}

func TestFittingOfAMail(t *testing.T) {
	for n := range impl.MaxMails + 3 {
		s := stateWith(boxWith(1, 2, "ann", "old"), boxWith(4, n, "ann", "inbox"), boxWith(5, 9, "bob", "inbox"))
		for _, uid := range []int{n + 1, n, n + 2, 1, n + 1 + 1<<32, -n - 1} {
			fits(t, fmt.Sprint(n, " mails"), s, 1, addRec(4, uid, 0, "a"), uid == n+1 && n < impl.MaxMails)
		}
		for _, valid := range []int{2, 3, 6, 5} {
			fits(t, "another box", s, 6, addRec(valid, n+1, 0, "a"), false)
		}
		fits(t, "the first box", s, 6, addRec(1, 3, 0, "a"), true)
	}
	// Mails that went count for Next, but not for MaxMails.
	late := boxWith(4, impl.MaxMails, "ann", "inbox")
	late.Next, late.Mails = 100, late.Mails[1:]
	fits(t, "mails that went", stateWith(late), 5, addRec(4, 100, 7, bodyOf(100)), true)
	fits(t, "mails that went", stateWith(late), 5, addRec(4, 1, 7, bodyOf(100)), false)
	fits(t, "mails that went", stateWith(late), 5, addRec(4, 9, 7, bodyOf(100)), false)
	for _, next := range []int{1, 2, 127, 128, impl.MaxValid - 1, impl.MaxValid, impl.MaxValid + 1, impl.MaxValid + 2, impl.MaxNumber, 0, -1, math.MaxInt, math.MinInt} {
		s := stateWith(impl.Box{Valid: 4, User: "ann", Name: "inbox", Next: next})
		for _, uid := range []int{next - 1, next, next + 1, impl.MaxValid, impl.MaxValid + 1} {
			fits(t, "a Next", s, 5, addRec(4, uid, 0, "a"), uid == next && 1 <= uid && uid <= impl.MaxValid)
		}
	}
	fits(t, "of nothing", impl.State{}, 1, addRec(1, 1, 0, "a"), false)
}

func TestFittingOfAFlagAndOfWhatGoes(t *testing.T) {
	ann, bob := impl.Box{Valid: 2, User: "ann", Name: "inbox", Next: 9, Mails: []impl.Mail{{Uid: 3}, {Uid: 5, Flags: 4}, {Uid: 8}}}, boxWith(6, 2, "bob", "inbox")
	s := stateWith(ann, boxWith(3, 0, "ann", "old"), bob)
	for _, c := range []struct {
		what       string
		valid, uid int
		want       bool
	}{
		{"the first mail", 2, 3, true}, {"one in the middle", 2, 5, true}, {"the last mail", 2, 8, true}, {"of another box", 6, 2, true},
		{"one that went", 2, 4, false}, {"the first one, which went", 2, 1, false}, {"one that never was", 2, 9, false}, {"far off", 2, impl.MaxValid, false},
		{"one that the other box has", 2, 2, false}, {"one that another box has", 6, 5, false}, {"a box without mails", 3, 3, false},
		{"a box that is not there", 4, 3, false}, {"a box that is not there yet", 7, 1, false}, {"Valid and Uid for each other", 3, 2, false},
		{"no Uid", 2, 0, false}, {"a Uid below 0", 2, -3, false}, {"a Uid wrapped", 2, 3 + 1<<32, false}, {"a Valid wrapped", 2 + 1<<32, 3, false},
	} {
		for _, nextvalid := range []int{7, 1, c.valid, -1} {
			fits(t, c.what, s, nextvalid, goneItem(0, c.valid, c.uid).Rec, c.want)
			for flags := range 8 {
				fits(t, c.what, s, nextvalid, flagRec(c.valid, c.uid, flags), c.want)
			}
		}
	}
	full := stateWith(boxWith(1, impl.MaxMails+1, "ann", "inbox"))
	fits(t, "a full box", full, 2, flagRec(1, impl.MaxMails+1, 1), true)
	fits(t, "a full box", full, 2, goneItem(0, 1, impl.MaxMails+1).Rec, true)
	fits(t, "of nothing", impl.State{}, 1, flagRec(1, 1, 0), false)
	fits(t, "of nothing", impl.State{}, 1, goneItem(0, 1, 1).Rec, false)
}

// What is told of a state is what it has, whether or not it is right.
func TestFittingOfWrongStates(t *testing.T) {
	two := stateWith(boxWith(4, 1, "ann", "a"), boxWith(4, 3, "bob", "b"))
	for valid, want := range map[int]bool{4: true, 5: false} {
		fits(t, "two of one Valid", two, 5, dropItem(0, valid).Rec, want)
	}
	fits(t, "two of one Valid, the first", two, 5, addRec(4, 2, 0, ""), true)
	fits(t, "two of one Valid, the second", two, 5, addRec(4, 4, 0, ""), false)
	fits(t, "two of one Valid, the first", two, 5, flagRec(4, 1, 0), true)
	fits(t, "two of one Valid, the second", two, 5, flagRec(4, 3, 0), false)
	down := stateWith(boxWith(9, 0, "ann", "a"), boxWith(2, 1, "ann", "a"), boxWith(-7, 0, "ann", "a"))
	fits(t, "boxes that descend", down, 10, dropItem(0, 2).Rec, true)
	fits(t, "boxes that descend", down, 10, addRec(2, 2, 0, ""), true)
	fits(t, "boxes of one Name", down, 10, makeRec(10, "ann", "b"), false)
	fits(t, "boxes of one Name", down, 10, makeRec(10, "bob", "b"), true)
	pair := stateWith(boxWith(9, 0, "ann", "a"), boxWith(2, 1, "ann", "a"))
	fits(t, "two boxes of one Name", pair, 10, makeRec(10, "ann", "b"), true)
	fits(t, "a Valid that is there", pair, 9, makeRec(9, "ann", "b"), true)
	mails := stateWith(impl.Box{Valid: 1, User: "ann", Name: "a", Next: 2, Mails: []impl.Mail{{Uid: 9}, {Uid: 2}, {Uid: 2}, {}, {Uid: -4}}})
	fits(t, "mails that descend", mails, 2, flagRec(1, 2, 0), true)
	fits(t, "mails that descend", mails, 2, goneItem(0, 1, 9).Rec, true)
	fits(t, "a Uid that is there", mails, 2, addRec(1, 2, 0, ""), true)
	fits(t, "mails that are not right", mails, 2, flagRec(1, 0, 0), false)
	fits(t, "mails that are not right", mails, 2, goneItem(0, 1, -4).Rec, false)
	fits(t, "a box of nothing", stateWith(impl.Box{}), 1, dropItem(0, 0).Rec, false)
	fits(t, "a box of nothing", stateWith(impl.Box{}), 1, makeRec(1, "ann", "a"), true)
}

// fittingRecs has records of each Kind that fit boxesState, with the nextvalid
// of 5.
func fittingRecs() []impl.Rec {
	return []impl.Rec{makeRec(5, "ann", "new"), dropItem(0, 2).Rec, addRec(2, 4, 3, "hi"), flagRec(2, 3, 6), goneItem(0, 2, 1).Rec}
}

func boxesState() impl.State {
	return stateWith(boxWith(2, 3, "ann", "inbox"), boxWith(3, 0, "ann", "old"), boxWith(4, 8, "bob", "inbox"))
}

// A record that is not right fits nowhere, whatever else is as it must be.
func TestFittingOfWrongRecords(t *testing.T) {
	for _, r := range fittingRecs() {
		fits(t, "right", boxesState(), 5, r, true)
		for _, wrong := range turnedFields(r) {
			if recRightAsSaid(wrong) {
				t.Fatalf("%+v is right", wrong)
			}
			fits(t, "one field turned", boxesState(), 5, wrong, false)
			fits(t, "one field turned, its nextvalid", boxesState(), wrong.Valid, wrong, false)
			box := impl.Box{Valid: wrong.Valid, User: "zed", Name: "zed", Next: wrong.Uid, Mails: []impl.Mail{{Uid: wrong.Uid}}}
			fits(t, "one field turned, its box", stateWith(box), 5, wrong, false)
		}
	}
	for _, r := range wrongRecs() {
		fits(t, "wrong", boxesState(), 5, r, false)
		fits(t, "wrong, no boxes", impl.State{}, r.Valid, r, false)
	}
	// Records that are right but of another Kind, Valid or Uid.
	for _, r := range fittingRecs() {
		for _, valid := range []int{1, 6, 130, impl.MaxValid} {
			other := r
			other.Valid = valid
			fits(t, "another Valid", boxesState(), 5, other, false)
		}
		if r.Uid > 0 {
			for _, uid := range []int{5, 200, impl.MaxValid} {
				other := r
				other.Uid = uid
				fits(t, "another Uid", boxesState(), 5, other, false)
			}
		}
	}
}

func TestFittingOfDrawnStates(t *testing.T) {
	d, fitting := drawing(12), map[int]int{}
	for range 20000 {
		s := impl.StateOf(d.items(1 + d.below(30)))
		r, nextvalid := d.rec(), d.of(1, 2, 3, 4, 5, 130, impl.MaxValid)
		if len(s.Boxes) > 0 && d.below(3) == 0 {
			r.Valid = s.Boxes[d.below(len(s.Boxes))].Valid
		}
		want := fittingAsSaid(s, nextvalid, r)
		fits(t, "drawn", s, nextvalid, r, want)
		if want {
			fitting[r.Kind]++
		}
		if t.Failed() {
			t.FailNow()
		}
	}
	for kind := 1; kind <= 5; kind++ {
		if fitting[kind] < 50 {
			t.Errorf("of Kind %d just %d fit", kind, fitting[kind])
		}
	}
}

// A user has MaxBoxes at most, and another one when one is dropped.
func TestDoRecOfTooManyBoxes(t *testing.T) {
	s := done(t, "boxes", newStore(t, 8), makeRec(1, "ann", "inbox"), makeRec(2, "ann", "old"))
	refused(t, "a box that is there", s, makeRec(3, "ann", "old"), impl.CodeNo)
	refused(t, "a Valid 1 less", s, makeRec(2, "ann", "bin"), impl.CodeNo)
	refused(t, "a Valid 1 more", s, makeRec(4, "ann", "bin"), impl.CodeNo)
	refused(t, "a Next of 2", s, boxItem(0, 3, 2, "ann", "bin").Rec, impl.CodeNo)
	s = done(t, "the last one", s, makeRec(3, "ann", "bin"))
	refused(t, "one too many", s, makeRec(4, "ann", "more"), impl.CodeNo)
	s = done(t, "another user", s, makeRec(4, "bob", "inbox"), makeRec(5, "bob", "more"), makeRec(6, "cid", "inbox"))
	refused(t, "one too many still", s, makeRec(7, "ann", "more"), impl.CodeNo)
	s = done(t, "a drop", s, dropItem(0, 2).Rec)
	refused(t, "a Valid that was given", s, makeRec(2, "ann", "old"), impl.CodeNo)
	s = done(t, "in its place", s, makeRec(7, "ann", "old"))
	refused(t, "one too many again", s, makeRec(8, "ann", "more"), impl.CodeNo)
	tellsBoxes(t, "in the end", s,
		impl.Box{Valid: 1, User: "ann", Name: "inbox", Next: 1}, impl.Box{Valid: 3, User: "ann", Name: "bin", Next: 1},
		impl.Box{Valid: 4, User: "bob", Name: "inbox", Next: 1}, impl.Box{Valid: 5, User: "bob", Name: "more", Next: 1},
		impl.Box{Valid: 6, User: "cid", Name: "inbox", Next: 1}, impl.Box{Valid: 7, User: "ann", Name: "old", Next: 1})
	risesAs(t, "in the end", s)
	// A log may tell of more than MaxBoxes: that is right, but there is none
	// to be made.
	used := segOf(0, 1)
	for i, name := range []string{"a", "b", "c", "d"} {
		used.Items = append(used.Items, boxItem(i+1, i+1, 1, "ann", name))
	}
	many := impl.Store{Log: checkedLog(logWith(5, segOf(0, 1, used.Items...)))}
	isRightStore(t, "more than MaxBoxes", many)
	risesAs(t, "more than MaxBoxes", many)
	refused(t, "more than MaxBoxes", many, makeRec(5, "ann", "e"), impl.CodeNo)
	less := done(t, "more than MaxBoxes", many, makeRec(5, "bob", "e"), dropItem(0, 1).Rec)
	refused(t, "MaxBoxes", less, makeRec(6, "ann", "e"), impl.CodeNo)
	done(t, "MaxBoxes less 1", done(t, "a drop", less, dropItem(0, 2).Rec), makeRec(6, "ann", "e"))
}

// A box has MaxMails at most, and another one when one went.
func TestDoRecOfTooManyMails(t *testing.T) {
	s := done(t, "boxes", newStore(t, 9), makeRec(1, "ann", "inbox"), makeRec(2, "ann", "old"))
	for uid := 1; uid <= impl.MaxMails; uid++ {
		refused(t, "a Uid 1 less", s, addRec(1, uid-1, 0, "a"), impl.CodeNo)
		refused(t, "a Uid 1 more", s, addRec(1, uid+1, 0, "a"), impl.CodeNo)
		refused(t, "one that never was", s, flagRec(1, uid, 0), impl.CodeNo)
		refused(t, "one that never was", s, goneItem(0, 1, uid).Rec, impl.CodeNo)
		s = done(t, "mails", s, addRec(1, uid, uid%8, "a"))
	}
	refused(t, "one too many", s, addRec(1, 9, 0, "a"), impl.CodeNo)
	s = done(t, "another box", s, addRec(2, 1, 0, "b"), flagRec(1, 8, 7), goneItem(0, 1, 3).Rec)
	refused(t, "one that went", s, goneItem(0, 1, 3).Rec, impl.CodeNo)
	refused(t, "one that went", s, flagRec(1, 3, 0), impl.CodeNo)
	refused(t, "one that went", s, addRec(1, 3, 0, "a"), impl.CodeNo)
	s = done(t, "in its place", s, addRec(1, 9, 0, "c"))
	refused(t, "one too many again", s, addRec(1, 10, 0, "a"), impl.CodeNo)
	s = done(t, "a drop", s, dropItem(0, 1).Rec)
	for _, r := range []impl.Rec{dropItem(0, 1).Rec, addRec(1, 10, 0, "a"), flagRec(1, 9, 0), goneItem(0, 1, 9).Rec, makeRec(1, "ann", "inbox")} {
		refused(t, "a box that was dropped", s, r, impl.CodeNo)
	}
	tellsBoxes(t, "in the end", s, impl.Box{Valid: 2, User: "ann", Name: "old", Next: 2, Mails: []impl.Mail{{Uid: 1, Text: "b"}}})
	risesAs(t, "in the end", s)
}

// No Uid is given behind MaxValid, and no Valid.
func TestDoRecOfTheGreatestNumbers(t *testing.T) {
	for _, next := range []int{impl.MaxValid - 1, impl.MaxValid, impl.MaxValid + 1} {
		s := impl.Store{Log: checkedLog(logWith(6, segOf(1, 2, boxItem(1, 1, next, "ann", "inbox"))))}
		isRightStore(t, "a great Next", s)
		for uid := next; uid <= impl.MaxValid; uid++ {
			s = done(t, "a great Next", s, addRec(1, uid, 0, "a"))
		}
		for _, uid := range []int{impl.MaxValid, impl.MaxValid + 1, impl.MaxValid + 2, 1} {
			refused(t, "behind the greatest Uid", s, addRec(1, uid, 0, "a"), impl.CodeNo)
		}
		if b := impl.StateNow(s).Boxes[0]; b.Next != impl.MaxValid+1 || len(b.Mails) != impl.MaxValid+1-next {
			t.Errorf("from %d on: %+v", next, b)
		}
		risesAs(t, "a great Next", s)
	}
	s := newStore(t, 5)
	s.Log.NextValid = impl.MaxValid
	s = done(t, "the greatest Valid", s, makeRec(impl.MaxValid, "ann", "inbox"))
	for _, valid := range []int{impl.MaxValid, impl.MaxValid + 1, 1} {
		refused(t, "behind the greatest Valid", s, makeRec(valid, "ann", "old"), impl.CodeNo)
	}
	done(t, "a mail behind the greatest Valid", s, addRec(impl.MaxValid, 1, 0, "a"))
	s.Log.NextSeq = impl.MaxNumber - 1
	s = done(t, "the greatest Seq", s, addRec(impl.MaxValid, 1, 0, "a"))
	refused(t, "behind the greatest Seq", s, addRec(impl.MaxValid, 2, 0, "a"), impl.CodeFull)
	refused(t, "behind the greatest Seq, not Fitting", s, addRec(impl.MaxValid, 1, 0, "a"), impl.CodeNo)
	risesAs(t, "the greatest Seq", s)
}

// filledStore has so many segments in use, of which the head has so many bytes
// left, and a box of Valid 1 with the Next of 9.
func filledStore(t *testing.T, segs, used, left int) impl.Store {
	t.Helper()
	list := []impl.Seg{segOf(segs-1, 3, boxItem(1, 1, 9, "ann", "inbox"))}
	for i := 1; i < used; i++ {
		list = append(list, segOf(segs-1-i, 3+i, dropItem(10+i, 20+i)))
	}
	head := &list[used-1]
	for seq := 50; impl.SegSize-head.End > left; seq++ {
		size := min(impl.SegSize-head.End-left, 100)
		if rest := impl.SegSize - head.End - left - size; rest > 0 && rest < 20 {
			size -= 20
		}
		x := addOf(t, size, seq, head.Gen)
		x.Rec.Valid = 90
		*head = segOf(head.No, head.Gen, append(head.Items, x)...)
	}
	s := impl.Store{Log: checkedLog(logWith(segs, list...))}
	if got := s.Log.Used[used-1].End; got != impl.SegSize-left {
		t.Fatalf("%d bytes are left, not %d", impl.SegSize-got, left)
	}
	isRightStore(t, "filled", s)
	return s
}

// With just Reserve segments free what fits in the head is done, and nothing
// else.
func TestDoRecKeepsTheReserve(t *testing.T) {
	for segs := impl.MinSegs; segs <= impl.MaxSegs; segs++ {
		for used := 1; used <= segs; used++ {
			free := segs - used
			for _, left := range []int{0, 14, 15, 16, 60, 100} {
				s := filledStore(t, segs, used, left)
				head := s.Log.Used[used-1]
				x := addItem(s.Log.NextSeq, 1, 9, 0, "")
				size := len(itemAsSaid(x, head.Gen))
				for _, more := range []int{0, 1, 30, 100} {
					what := fmt.Sprintf("%d of %d in use, %d bytes left, a mail of %d", used, segs, left, more)
					r := addRec(1, 9, 0, bodyOf(more))
					inHead := size+more <= left
					if !inHead && free <= impl.Reserve {
						refused(t, what, s, r, impl.CodeFull)
						continue
					}
					got := done(t, what, s, r)
					if opened := len(got.Log.Used) - used; inHead != (opened == 0) || opened > 1 || len(impl.FreeSegs(got.Log)) != free-opened {
						t.Errorf("%s: %s", what, tellStore(got))
					}
					risesAs(t, what, got)
				}
				refused(t, "not Fitting", s, addRec(1, 8, 0, bodyOf(100)), impl.CodeNo)
				refused(t, "not Fitting", s, dropItem(0, 2).Rec, impl.CodeNo)
			}
		}
	}
}

func TestDoRecWithoutAGenToGive(t *testing.T) {
	s := filledStore(t, 8, 2, 40)
	s.Log.NextGen = impl.MaxNumber
	isRightStore(t, "the greatest NextGen", s)
	refused(t, "the greatest NextGen", s, addRec(1, 9, 0, bodyOf(100)), impl.CodeFull)
	done(t, "the greatest NextGen, but room", s, dropItem(0, 1).Rec)
	s.Log.NextGen--
	done(t, "the greatest NextGen but one", s, addRec(1, 9, 0, bodyOf(100)))
}

// A store that is filled refuses in the end, and what it has stays.
func TestDoRecUntilNothingFits(t *testing.T) {
	for segs := impl.MinSegs; segs <= impl.MaxSegs; segs++ {
		s := done(t, "a box", newStore(t, segs), makeRec(1, "ann", "inbox"), addRec(1, 1, 0, "hello"))
		for n := 0; ; n++ {
			next, code := does(t, "until nothing fits", s, flagRec(1, 1, n%8))
			if code == 0 {
				s = next
				continue
			}
			if code != impl.CodeFull || !alikeStores(next, s) || len(impl.FreeSegs(s.Log)) != impl.Reserve || n < 10*(segs-impl.Reserve) {
				t.Errorf("%d segments: behind %d flags the code is %d: %s", segs, n, code, tellStore(next))
			}
			break
		}
		flags := s.Log.Used[len(s.Log.Used)-1]
		tellsBoxes(t, "until nothing fits", s, impl.Box{Valid: 1, User: "ann", Name: "inbox", Next: 2, Mails: []impl.Mail{{Uid: 1, Flags: flags.Items[len(flags.Items)-1].Rec.Flags, Text: "hello"}}})
		refused(t, "not Fitting", s, flagRec(1, 2, 0), impl.CodeNo)
		refused(t, "a box", s, makeRec(2, "ann", "old"), impl.CodeFull)
		refused(t, "what goes", s, goneItem(0, 1, 1).Rec, impl.CodeFull)
		risesAs(t, "until nothing fits", s)
		fixed, ok := fixesStore(t, "until nothing fits", s)
		if !ok || fixed.Log.Stamp != 2 {
			t.Errorf("%d segments: full, and not fixed", segs)
		}
		refused(t, "fixed", fixed, flagRec(1, 1, 0), impl.CodeFull)
	}
}

// recsToTry are records of each Kind, of which some fit severalLog.
func recsToTry() []impl.Rec {
	list := []impl.Rec{
		makeRec(8, "eve", "inbox"), makeRec(8, "ann", "inbox"), makeRec(7, "eve", "inbox"), dropItem(0, 1).Rec, dropItem(0, 5).Rec, dropItem(0, 2).Rec,
		addRec(1, 2, 0, "a"), addRec(1, 1, 0, "a"), addRec(5, 2, 7, bodyOf(100)), flagRec(5, 1, 2), flagRec(1, 1, 2), goneItem(0, 5, 1).Rec, goneItem(0, 1, 1).Rec, {},
	}
	return append(list, wrongRecs()[:8]...)
}

// Of a store whose log is not right what is not Fitting is CodeNo, all else
// CodeFull.
func TestDoRecOfWrongLogs(t *testing.T) {
	codes := map[int]int{}
	for what, g := range wrongLogs() {
		for _, freed := range [][]int{nil, {0}} {
			s := impl.Store{Log: g, Freed: freed}
			now := stateAsSaid(itemsIn(g.Used))
			for _, r := range append(recsToTry(), makeRec(g.NextValid, "zed", "zed")) {
				want := impl.CodeNo
				if fittingAsSaid(now, g.NextValid, r) {
					want = impl.CodeFull
				}
				refused(t, what, s, r, want)
				codes[want]++
			}
		}
	}
	if codes[impl.CodeNo] < 100 || codes[impl.CodeFull] < 100 {
		t.Errorf("codes: %v", codes)
	}
	// Some, spelt out.
	wrong := impl.Store{Log: turned(func(g *impl.Log) { g.Stamp = 0 })}
	refused(t, "no Stamp", wrong, flagRec(5, 1, 2), impl.CodeFull)
	refused(t, "no Stamp", wrong, flagRec(5, 2, 2), impl.CodeNo)
	refused(t, "nothing", impl.Store{}, makeRec(1, "ann", "inbox"), impl.CodeNo)
	refused(t, "a NextValid alone", impl.Store{Log: impl.Log{NextValid: 1}}, makeRec(1, "ann", "inbox"), impl.CodeFull)
	twice := impl.Store{Log: logWith(5, segOf(0, 2, boxItem(8, 3, 1, "ann", "inbox"), dropItem(8, 4)))}
	refused(t, "two of one Seq tell nothing", twice, dropItem(0, 3).Rec, impl.CodeNo)
	refused(t, "two of one Seq tell nothing", twice, makeRec(5, "ann", "inbox"), impl.CodeFull)
}

// DoRec asks of the log alone: Freed stays as it is, right or not.
func TestDoRecPassesOverFreed(t *testing.T) {
	for _, freed := range [][]int{{0}, {4}, {4, 0}, {0, 0}, {6}, {1}, {-1}, {math.MaxInt}, {0, 1, 2, 3, 4, 5, 6}} {
		s := impl.Store{Log: severalLog(), Freed: freed}
		got, code := does(t, "Freed", s, addRec(5, 2, 0, "a"))
		if code != 0 || !slices.Equal(got.Freed, freed) || len(impl.StateNow(got).Boxes) != 2 {
			t.Errorf("Freed %v: %d, %s", freed, code, tellStore(got))
		}
		refused(t, "Freed", s, addRec(5, 1, 0, "a"), impl.CodeNo)
	}
	// Two boxes of one name: no store is right that has them, but the log is.
	s := impl.Store{Log: logWith(5, segOf(0, 2, boxItem(8, 3, 1, "ann", "old"), boxItem(9, 4, 1, "ann", "old")))}
	refusesStore(t, "two boxes of one name", s)
	got, code := does(t, "two boxes of one name", s, dropItem(0, 3).Rec)
	if code != 0 {
		t.Fatalf("a drop has the code %d", code)
	}
	isRightStore(t, "one of them dropped", got)
}

// sparedStore has two segments without which all is told the same (4 and 0),
// and one without which it is not (2), on a disk with a check of it.
func sparedStore(freed ...int) impl.Store {
	box, mail := boxItem(1, 1, 1, "ann", "inbox"), addItem(2, 1, 1, 0, "hello\n")
	g := logWith(7, segOf(4, 3, box, mail), segOf(2, 4, boxItem(3, 5, 1, "bob", "old")), segOf(0, 5),
		segOf(6, 9, box, mail, addItem(4, 5, 1, 7, "to bob"), flagItem(30, 1, 1, 2)))
	g.NextGen, g.NextSeq, g.NextValid, g.Stamp = 12, 40, 8, 2
	return impl.Store{Log: checkedLog(g), Freed: freed}
}

func TestStoreOkOfFreed(t *testing.T) {
	for _, c := range []struct {
		what  string
		freed []int
		want  bool
	}{
		{"nothing", nil, true}, {"an empty list", []int{}, true},
		{"one without items", []int{0}, true}, {"one whose items lie elsewhere, too", []int{4}, true}, {"both", []int{0, 4}, true},
		{"both, not ascending", []int{4, 0}, false}, {"one twice", []int{0, 0}, false}, {"the other one twice", []int{4, 4}, false}, {"one twice, behind another", []int{0, 4, 4}, false},
		{"one twice, ahead of another", []int{0, 0, 4}, false}, {"the first one again", []int{0, 4, 0}, false},
		{"one that is needed", []int{2}, false}, {"one that is needed, between", []int{0, 2, 4}, false}, {"one that is needed, behind", []int{0, 2}, false}, {"one that is needed, ahead", []int{2, 4}, false},
		{"the head", []int{6}, false}, {"the head, behind others", []int{0, 4, 6}, false}, {"all", []int{0, 2, 4, 6}, false},
		{"one that is free", []int{1}, false}, {"one that is free, between", []int{0, 1, 4}, false}, {"the last that is free", []int{5}, false},
		{"none", []int{-1}, false}, {"none, ahead", []int{-1, 0, 4}, false}, {"none, behind", []int{0, 4, 7}, false}, {"none", []int{7}, false}, {"none", []int{11}, false},
		{"far off", []int{math.MaxInt}, false}, {"far below", []int{math.MinInt, 0}, false}, {"wrapped", []int{1 << 32}, false}, {"wrapped", []int{4 + 1<<32}, false},
	} {
		s := sparedStore(c.freed...)
		if !c.want {
			refusesStore(t, c.what, s)
			continue
		}
		isRightStore(t, c.what, s)
		tellsBoxes(t, c.what, s, spareBoxes()...)
	}
}

func spareBoxes() []impl.Box {
	return []impl.Box{
		{Valid: 1, User: "ann", Name: "inbox", Next: 2, Mails: []impl.Mail{{Uid: 1, Flags: 2, Text: "hello\n"}}},
		{Valid: 5, User: "bob", Name: "old", Next: 2, Mails: []impl.Mail{{Uid: 1, Flags: 7, Text: "to bob"}}},
	}
}

// Whether a segment may be Freed hangs on what is told without it: any part of
// that, and nothing else.
func TestStoreOkOfWhatIsToldWithoutTheFreed(t *testing.T) {
	box, mail := boxItem(1, 1, 1, "ann", "inbox"), addItem(2, 1, 1, 1, "a")
	for _, c := range []struct {
		what  string
		older []impl.Item
		head  []impl.Item
		want  bool
	}{
		{"nothing", nil, nil, true},
		{"nothing is told of it", []impl.Item{flagItem(3, 7, 1, 1), dropItem(4, 8), goneItem(5, 9, 1)}, []impl.Item{box}, true},
		{"a box", []impl.Item{box}, nil, false},
		{"a box that was dropped", []impl.Item{box}, []impl.Item{dropItem(9, 1)}, true},
		{"a drop", []impl.Item{dropItem(9, 1)}, []impl.Item{box}, false},
		{"a drop and its box", []impl.Item{box, dropItem(9, 1)}, nil, true},
		{"a box of another Seq", []impl.Item{box}, []impl.Item{boxItem(7, 1, 1, "ann", "inbox")}, true},
		{"a box of another Name", []impl.Item{boxItem(7, 1, 1, "ann", "old")}, []impl.Item{box}, false},
		{"a box of another Name, which does not count", []impl.Item{boxItem(1, 1, 1, "ann", "old")}, []impl.Item{boxItem(7, 1, 1, "ann", "inbox")}, true},
		{"a Next", []impl.Item{boxItem(7, 1, 3, "ann", "inbox")}, []impl.Item{box}, false},
		{"a Next that a mail has, too", []impl.Item{boxItem(7, 1, 2, "ann", "inbox")}, []impl.Item{box, mail}, true},
		{"a mail", []impl.Item{mail}, []impl.Item{box}, false},
		{"a mail that went, but its Next", []impl.Item{mail, goneItem(9, 1, 1)}, []impl.Item{box}, false},
		{"a mail that went", []impl.Item{mail}, []impl.Item{box, goneItem(9, 1, 1)}, true},
		{"that a mail went", []impl.Item{goneItem(9, 1, 1)}, []impl.Item{box, mail}, false},
		{"that a mail went which is not there", []impl.Item{goneItem(9, 1, 1)}, []impl.Item{boxItem(1, 1, 2, "ann", "inbox")}, true},
		{"Flags", []impl.Item{flagItem(9, 1, 1, 2)}, []impl.Item{box, mail}, false},
		{"Flags that are a mail's own", []impl.Item{flagItem(9, 1, 1, 1)}, []impl.Item{box, mail}, true},
		{"Flags that were turned since", []impl.Item{flagItem(8, 1, 1, 2)}, []impl.Item{box, mail, flagItem(9, 1, 1, 4)}, true},
		{"another Text", []impl.Item{addItem(9, 1, 1, 1, "b")}, []impl.Item{box, mail}, false},
		{"another Text, which does not count", []impl.Item{addItem(2, 1, 1, 1, "b")}, []impl.Item{box, addItem(9, 1, 1, 1, "a")}, true},
	} {
		s := impl.Store{Log: checkedLog(logWith(5, segOf(3, 4, c.older...), segOf(1, 6, c.head...)))}
		isRightStore(t, c.what+", nothing Freed", s)
		s.Freed = []int{3}
		if !c.want {
			refusesStore(t, c.what, s)
			continue
		}
		isRightStore(t, c.what, s)
		fixed, ok := fixesStore(t, c.what, s)
		if !ok || len(fixed.Log.Used) != 1 || fixed.Log.Used[0].No != 1 || !impl.SameState(impl.StateNow(fixed), impl.StateNow(s)) {
			t.Errorf("%s: %v, %s", c.what, ok, tellStore(fixed))
		}
		risesAs(t, c.what, fixed)
	}
	// Either of two may go, but not both.
	both := impl.Store{Log: logWith(5, segOf(0, 1, box, mail), segOf(1, 2, box, mail), segOf(2, 3))}
	for _, freed := range [][]int{{0}, {1}} {
		both.Freed = freed
		isRightStore(t, "either of two", both)
	}
	both.Freed = []int{0, 1}
	refusesStore(t, "both of two", both)
	// The head is none of those Freed, also when nothing is told of it.
	for what, head := range map[string][]impl.Item{"without items": nil, "whose items lie elsewhere, too": {box, mail}, "of which nothing is told": {dropItem(9, 7)}} {
		s := impl.Store{Log: logWith(5, segOf(0, 1, box, mail), segOf(1, 2, box, mail), segOf(2, 3, head...))}
		for _, freed := range [][]int{{2}, {0, 2}, {1, 2}} {
			s.Freed = freed
			refusesStore(t, "a head "+what, s)
		}
		s.Freed = []int{1}
		isRightStore(t, "ahead of a head "+what, s)
	}
	refusesStore(t, "the head alone", impl.Store{Log: newLog(5), Freed: []int{0}})
}

func TestStoreOkOfLogs(t *testing.T) {
	for what, g := range rightLogs() {
		s := impl.Store{Log: g}
		if !namesRightAsSaid(stateAsSaid(itemsIn(g.Used))) {
			refusesStore(t, what, s)
			continue
		}
		isRightStore(t, what, s)
	}
	for what, g := range wrongLogs() {
		refusesStore(t, what, impl.Store{Log: g})
		refusesStore(t, what, impl.Store{Log: g, Freed: []int{0}})
		refusesStore(t, what, impl.Store{Log: g, Freed: []int{-1, 3}})
	}
	refusesStore(t, "nothing", impl.Store{})
	refusesStore(t, "Freed alone", impl.Store{Freed: []int{0}})
}

// Two boxes of one User and Name: the log is right, the store is not.
func TestStoreOkOfTwoBoxesOfOneName(t *testing.T) {
	one, other := boxItem(8, 3, 1, "ann", "old"), boxItem(9, 4, 1, "ann", "old")
	for what, c := range map[string]struct {
		used  []impl.Seg
		freed []int
		want  bool
	}{
		"in one segment":             {[]impl.Seg{segOf(0, 2, one, other)}, nil, false},
		"in two segments":            {[]impl.Seg{segOf(0, 2, one), segOf(3, 5, other)}, nil, false},
		"one of them Freed":          {[]impl.Seg{segOf(0, 2, one), segOf(3, 5, other)}, []int{0}, false},
		"one of them dropped":        {[]impl.Seg{segOf(0, 2, one, other), segOf(3, 5, dropItem(10, 3))}, nil, true},
		"one of them has a new Name": {[]impl.Seg{segOf(0, 2, one, other), segOf(3, 5, boxItem(10, 3, 1, "ann", "new"))}, nil, true},
		"of two users":               {[]impl.Seg{segOf(0, 2, one, boxItem(9, 4, 1, "bob", "old"))}, nil, true},
		"of two Names":               {[]impl.Seg{segOf(0, 2, one, boxItem(9, 4, 1, "ann", "new"))}, nil, true},
	} {
		s := impl.Store{Log: checkedLog(logWith(5, c.used...)), Freed: c.freed}
		isRight(t, what, s.Log)
		if !c.want {
			refusesStore(t, what, s)
			comesUpAs(t, what, s.Log.Disk, s.Log)
			risesNot(t, what, s.Log.Disk)
			continue
		}
		isRightStore(t, what, s)
		risesAs(t, what, s)
	}
}

// isFixed asks for every field of what is there behind CheckStore.
func isFixed(t *testing.T, what string, s impl.Store, nos []int) impl.Store {
	t.Helper()
	got, ok := fixesStore(t, what, s)
	if !ok || len(got.Freed) > 0 || got.Log.Stamp != s.Log.Stamp+1 {
		t.Fatalf("%s: %v, %s", what, ok, tellStore(got))
	}
	c := impl.Check{Stamp: s.Log.Stamp + 1, NextGen: s.Log.NextGen, NextSeq: s.Log.NextSeq, NextValid: s.Log.NextValid}
	used := []int{}
	for _, x := range got.Log.Used {
		used, c.Refs = append(used, x.No), append(c.Refs, impl.Ref{No: x.No, Gen: x.Gen})
		if at := slices.IndexFunc(s.Log.Used, func(y impl.Seg) bool { return sameSeg(x, y) }); at < 0 {
			t.Errorf("%s: a segment that was not: %+v", what, x)
		}
	}
	if !slices.Equal(used, nos) {
		t.Errorf("%s: %v in use, not %v", what, used, nos)
	}
	tellsNewest(t, what, got.Log.Disk, c)
	if want := putFrom(s.Log.Disk, 128*(c.Stamp%2), checkAsSaid(c)); !sameDisk(got.Log.Disk, want) {
		t.Errorf("%s: another disk than with the check alone", what)
	}
	if g := got.Log; g.NextGen != s.Log.NextGen || g.NextSeq != s.Log.NextSeq || g.NextValid != s.Log.NextValid || g.Segs != s.Log.Segs {
		t.Errorf("%s: other numbers: %s", what, tellStore(got))
	}
	if !impl.SameState(impl.StateNow(got), impl.StateNow(s)) {
		t.Errorf("%s: something else is told: %+v", what, impl.StateNow(got))
	}
	isRightStore(t, what, got)
	risesAs(t, what, got)
	return got
}

func TestCheckStore(t *testing.T) {
	for segs := impl.MinSegs; segs <= impl.MaxSegs; segs++ {
		s := isFixed(t, "a new one", newStore(t, segs), []int{0})
		s = done(t, "a box", isFixed(t, "again", s, []int{0}), makeRec(1, "ann", "inbox"))
		isFixed(t, "a box", s, []int{0})
	}
	isFixed(t, "nothing Freed", sparedStore(), []int{4, 2, 0, 6})
	isFixed(t, "one Freed", sparedStore(0), []int{4, 2, 6})
	isFixed(t, "another one Freed", sparedStore(4), []int{2, 0, 6})
	two := isFixed(t, "two Freed", sparedStore(0, 4), []int{2, 6})
	logTold(t, "two Freed", two.Log, []int{2, 6}, []int{4, 9}, []int{1, 4}, 12, 40, 8, 3)
	tellsBoxes(t, "two Freed", two, spareBoxes()...)
	if free := impl.FreeSegs(two.Log); !slices.Equal(free, []int{0, 1, 3, 4, 5}) {
		t.Errorf("two that were Freed: %v are free", free)
	}
	isFixed(t, "the next Stamp, in the other region", two, []int{2, 6})
	for what, g := range rightLogs() {
		if s := (impl.Store{Log: g}); storeRightAsSaid(s) && g.Stamp < impl.MaxNumber && what != "segments of other Gens that are not in use" {
			nos := []int{}
			for _, x := range g.Used {
				nos = append(nos, x.No)
			}
			isFixed(t, what, s, nos)
		}
	}
}

// What was Freed is in use until it is fixed, and free from then on.
func TestCheckStoreMakesRoom(t *testing.T) {
	s := done(t, "a box", newStore(t, 5), makeRec(1, "ann", "inbox"), addRec(1, 1, 0, "a"), addRec(1, 2, 0, bodyOf(90)))
	for s.Log.NextGen < 4 {
		s = done(t, "filled", s, flagRec(1, 1, s.Log.NextSeq%8))
	}
	s = done(t, "filled", s, goneItem(0, 1, 2).Rec)
	for {
		next, code := does(t, "filled", s, flagRec(1, 1, s.Log.NextSeq%8))
		if code != 0 {
			break
		}
		s = next
	}
	// The middle one has but Flags that were turned since.
	s.Freed = []int{s.Log.Used[1].No}
	isRightStore(t, "Freed", s)
	refused(t, "Freed, but not fixed", s, flagRec(1, 1, 3), impl.CodeFull)
	risen, ok := rises(t, "Freed, but not fixed", s.Log.Disk)
	if !ok || len(risen.Log.Used) != 3 || len(risen.Freed) > 0 {
		t.Fatalf("Freed, but not fixed: %v, %s", ok, tellStore(risen))
	}
	risesAs(t, "Freed, but not fixed", s)
	fixed := isFixed(t, "Freed", s, []int{0, 2})
	more := done(t, "fixed", fixed, flagRec(1, 1, 3))
	logTold(t, "fixed, and opened again", more.Log, []int{0, 2, 1}, []int{1, 3, 4}, []int{len(more.Log.Used[0].Items), len(more.Log.Used[1].Items), 1}, 5, s.Log.NextSeq+1, 2, 2)
	risesAs(t, "fixed, and opened again", more)
	tellsBoxes(t, "fixed, and opened again", more, impl.Box{Valid: 1, User: "ann", Name: "inbox", Next: 3, Mails: []impl.Mail{{Uid: 1, Flags: 3, Text: "a"}}})
}

// A check of a Stamp above MaxNumber can't be written.
func TestCheckStoreOfTheGreatestStamp(t *testing.T) {
	for _, freed := range [][]int{nil, {0}, {0, 4}} {
		s := sparedStore(freed...)
		s.Log.Stamp = impl.MaxNumber
		isRightStore(t, "the greatest Stamp", s)
		if got, ok := fixesStore(t, "the greatest Stamp", s); ok || !alikeStores(got, s) {
			t.Errorf("the greatest Stamp: %v, %s", ok, tellStore(got))
		}
		s.Log.Stamp--
		if got, ok := fixesStore(t, "the greatest Stamp but one", s); !ok || got.Log.Stamp != impl.MaxNumber || len(got.Log.Used) != 4-len(freed) {
			t.Errorf("the greatest Stamp but one: %v, %s", ok, tellStore(got))
		}
	}
	top := impl.MaxNumber
	s := sparedStore(0, 4)
	s.Log.NextGen, s.Log.NextSeq, s.Log.NextValid, s.Log.Stamp = top, top, top, top-1
	isFixed(t, "the greatest numbers", s, []int{2, 6})
}

// The check is written in its region, whatever lies in the other one.
func TestCheckStoreBesideOtherChecks(t *testing.T) {
	s := sparedStore(4)
	for stamp, there := range map[int]bool{1: false, 2: true, 3: true, 4: true, 500: true, 501: true} {
		// A greater Stamp that lies there already is newer still.
		s.Log.Stamp = stamp
		s.Log.Disk = checkedWith(checkedWith(sparedStore().Log.Disk, plainCheck(3)), leastCheck(2))
		got, ok := fixesStore(t, "other checks", s)
		if !ok || got.Log.Stamp != stamp+1 {
			t.Fatalf("Stamp %d: %v, %s", stamp, ok, tellStore(got))
		}
		if c, _ := impl.NewestCheck(got.Log.Disk); there != (c.Stamp == stamp+1) {
			t.Errorf("Stamp %d: the newest one is %+v", stamp, c)
		}
	}
}

func TestRiseStoreRefuses(t *testing.T) {
	risesNot(t, "nothing", impl.Disk{})
	for what, d := range wrongCheckDisks() {
		risesNot(t, what, d)
	}
	for what, d := range rightDisks() {
		risesNot(t, what, d)
	}
	for what, g := range rightLogs() {
		risesNot(t, what+", without a check", g.Disk)
	}
	s := sparedStore()
	risesAs(t, "right", s)
	for at := range s.Log.Disk.Sectors {
		d := ofDisk(s.Log.Disk)
		d.Sectors[at] = d.Sectors[at][1:]
		risesNot(t, fmt.Sprint("sector ", at, " too short"), d)
		d = ofDisk(s.Log.Disk)
		d.Cache = []impl.Write{{At: at, Text: d.Sectors[at]}}
		risesNot(t, "a write that waits", d)
	}
	for n := range sectorsOf(5) {
		risesNot(t, fmt.Sprint(n, " sectors"), impl.Disk{Sectors: s.Log.Disk.Sectors[:n]})
	}
	for _, gen := range []int{12, 40} {
		d := putAsSaid(putAsSaid(s.Log.Disk, 1, 0, segAsSaid(gen, nil)), 5, 0, segAsSaid(gen, nil))
		risesNot(t, "two of one Gen", d)
	}
	risesNot(t, "another one of a Seq", putAsSaid(s.Log.Disk, 1, 0, segAsSaid(12, []impl.Item{dropItem(30, 1)})))
	// A box of a name that is there, in a segment opened behind the check.
	risesNot(t, "a box twice", putAsSaid(s.Log.Disk, 1, 0, segAsSaid(12, []impl.Item{boxItem(50, 9, 1, "bob", "old")})))
	d := putAsSaid(s.Log.Disk, 1, 0, segAsSaid(12, []impl.Item{boxItem(50, 9, 1, "bob", "new")}))
	if got, ok := rises(t, "another box", d); !ok || len(impl.StateNow(got).Boxes) != 3 || got.Log.NextValid != 10 {
		t.Errorf("another box: %v, %s", ok, tellStore(got))
	}
	risesNot(t, "the box of a name has another Valid", putAsSaid(s.Log.Disk, 1, 0, segAsSaid(12, []impl.Item{boxItem(50, 5, 2, "ann", "inbox")})))
}

func TestRiseStoreOfLogs(t *testing.T) {
	up := 0
	for what, g := range rightLogs() {
		s := impl.Store{Log: checkedLog(g)}
		got, ok := rises(t, what, s.Log.Disk)
		if ok {
			up++
			tellsNow(t, what, got)
		}
		if want := namesRightAsSaid(stateAsSaid(itemsIn(g.Used))); ok != want {
			t.Errorf("%s: %v", what, ok)
		}
	}
	if up < 50 {
		t.Errorf("just %d logs come up", up)
	}
	for what, g := range wrongLogs() {
		rises(t, what, g.Disk)
		if len(g.Disk.Sectors) >= 8 && impl.DiskOk(g.Disk) {
			rises(t, what+", with a check", checkedWith(g.Disk, checkOfAsSaid(severalLog())))
		}
	}
}

func TestRiseStoreOfDrawnDisks(t *testing.T) {
	d, up := drawing(41), 0
	for range 1500 {
		if _, ok := rises(t, "a drawn disk", drawnLogDisk(&d)); ok {
			up++
		}
		if t.Failed() {
			t.FailNow()
		}
	}
	if up < 200 {
		t.Errorf("of 1500 disks just %d come up", up)
	}
}

// crashesBetween asks, of everything that the power may leave of what waits,
// that the store comes up with what it told before, or with what it tells now.
func crashesBetween(t *testing.T, what string, waiting impl.Disk, before, after impl.State) {
	t.Helper()
	seen := [2]int{}
	for _, keep := range keepsOf(len(waiting.Cache)) {
		for tear := range 33 {
			up, ok := rises(t, what, impl.CrashDisk(waiting, keep, tear))
			told := impl.StateNow(up)
			isBefore, isAfter := sameTold(told, before), sameTold(told, after)
			if !ok || !isBefore && !isAfter {
				t.Fatalf("%s: kept %v, torn at %d: %v, %s", what, keep, tear, ok, tellStore(up))
			}
			if isBefore {
				seen[0]++
			}
			if isAfter {
				seen[1]++
			}
		}
	}
	if seen[0] == 0 || seen[1] == 0 {
		t.Errorf("%s: before comes up %d times, after %d times", what, seen[0], seen[1])
	}
}

func TestRiseStoreOfWhatWasNotFlushed(t *testing.T) {
	s := done(t, "a life", newStore(t, 6), makeRec(1, "ann", "inbox"), addRec(1, 1, 0, "a"), addRec(1, 2, 4, bodyOf(40)))
	for _, r := range []impl.Rec{makeRec(2, "ann", "old"), addRec(1, 3, 1, bodyOf(60)), flagRec(1, 1, 7), goneItem(0, 1, 2).Rec, dropItem(0, 1).Rec} {
		head := s.Log.Used[len(s.Log.Used)-1]
		waiting := waitsAtEnd(t, s.Log.Disk, head, impl.Item{Seq: s.Log.NextSeq, Rec: r})
		risesNot(t, "what waits", waiting)
		crashesBetween(t, fmt.Sprint("Kind ", r.Kind), waiting, impl.StateNow(s), impl.StateNow(done(t, "done", s, r)))
	}
	for _, freed := range [][]int{nil, {0}, {0, 4}} {
		s := sparedStore(freed...)
		fixed, _ := fixesStore(t, "fixed", s)
		c := checkOfAsSaid(fixed.Log)
		c.Stamp--
		waiting, _ := impl.WriteBytes(s.Log.Disk, 4*(c.Stamp%2), 0, checkAsSaid(c))
		if !sameDisk(impl.FlushDisk(waiting), fixed.Log.Disk) {
			t.Fatal("another check waits than is fixed")
		}
		crashesBetween(t, fmt.Sprint("a check, Freed ", freed), waiting, impl.StateNow(s), impl.StateNow(fixed))
	}
}

// What was done is on the disk: a crash takes nothing of it.
func TestWhatIsDoneStaysInACrash(t *testing.T) {
	s := newStore(t, 7)
	for i, r := range []impl.Rec{makeRec(1, "ann", "inbox"), addRec(1, 1, 0, bodyOf(100)), addRec(1, 2, 0, bodyOf(100)), flagRec(1, 2, 3), addRec(1, 3, 0, bodyOf(100)), goneItem(0, 1, 1).Rec} {
		s = done(t, "a life", s, r)
		torn := copyOfStore(s)
		torn.Log.Disk = impl.CrashDisk(s.Log.Disk, []int{0, 0, 0}, i)
		risesAs(t, "after a crash", torn)
		if !alikeStores(torn, s) {
			t.Errorf("record %d: a crash leaves another disk", i)
		}
	}
}

// Where what lay behind a record has the sum of another one, that one is read,
// too: it is done, but the store is not right, and comes up as another one or
// not at all.
func TestDoRecAheadOfWhatIsAnotherOnes(t *testing.T) {
	r := flagRec(1, 1, 5)
	g := logWith(5, segOf(2, 6, plainItems()...))
	x := impl.Item{Seq: g.NextSeq, Rec: r}
	size := len(itemAsSaid(x, 6))
	for what, c := range map[string]struct {
		behind string
		up     bool
		flags  int
	}{
		"a flag of a greater Seq": {itemAsSaid(flagItem(50, 1, 1, 2), 6), true, 2},
		"a flag of a lesser Seq":  {itemAsSaid(flagItem(4, 1, 3, 2), 6), false, 0},
		"the same once more":      {itemAsSaid(x, 6), true, 5},
		"a box of that name":      {itemAsSaid(boxItem(50, 2, 1, "ann", "inbox"), 6), false, 0},
		"what is no item":         {frameAsSaid(segMark(6)), false, 0},
	} {
		s := impl.Store{Log: checkedLog(withBehind(size, c.behind))}
		isRightStore(t, what, s)
		risesAs(t, what, s)
		got, code := does(t, what, s, r)
		if code != 0 || impl.StateNow(got).Boxes[0].Mails[0].Flags != 5 {
			t.Errorf("%s: %d, %s", what, code, tellStore(got))
		}
		refusesStore(t, what, got)
		refused(t, what, got, flagRec(1, 1, 1), impl.CodeFull)
		up, ok := rises(t, what, got.Log.Disk)
		if ok != c.up || ok && impl.StateNow(up).Boxes[0].Mails[0].Flags != c.flags {
			t.Errorf("%s: %v, %s comes up", what, ok, tellStore(up))
		}
	}
}

// drawnRec is mostly one that fits, else one that is near to it.
func drawnRec(d *drawing, s impl.Store) impl.Rec {
	now := stateAsSaid(itemsIn(s.Log.Used))
	user, name := []string{"ann", "bob", "cid"}[d.below(3)], []string{"inbox", "old", "bin", "new"}[d.below(4)]
	if len(now.Boxes) == 0 || d.below(8) == 0 {
		return boxItem(0, s.Log.NextValid+d.of(0, 0, 0, 0, 0, 1, -1), d.of(1, 1, 1, 1, 1, 2), user, name).Rec
	}
	b := now.Boxes[d.below(len(now.Boxes))]
	uid := d.of(1, b.Next-1, b.Next)
	if len(b.Mails) > 0 && d.below(5) > 0 {
		uid = b.Mails[d.below(len(b.Mails))].Uid
	}
	switch d.of(2, 3, 3, 3, 3, 3, 3, 4, 4, 4, 5, 5, 9) {
	case impl.RecDrop:
		if d.below(2) > 0 {
			return dropItem(0, b.Valid).Rec
		}
		return dropItem(0, b.Valid+d.of(-1, 1)).Rec
	case impl.RecAdd:
		return addRec(b.Valid, b.Next+d.of(0, 0, 0, 0, 0, 0, -1, 1), d.below(8), bodyOf(d.of(0, 3, 20, 60, 100, 100, 101)))
	case impl.RecFlag:
		return flagRec(b.Valid, uid, d.below(8))
	case impl.RecGone:
		return goneItem(0, b.Valid, uid).Rec
	}
	return d.rec()
}

// letGo has all segments Freed without which all is told the same.
func letGo(s impl.Store) impl.Store {
	for _, x := range s.Log.Used {
		other := copyOfStore(s)
		other.Freed = append(other.Freed, x.No)
		slices.Sort(other.Freed)
		if storeRightAsSaid(other) {
			s = other
		}
	}
	return s
}

// Promise 12, in drawn lives.
func TestAStoreComesUpAsItWas(t *testing.T) {
	codes, freed, lives := map[int]int{}, 0, 0
	for seed := range 14 {
		d := drawing(500 + seed)
		s := newStore(t, impl.MinSegs+seed%7)
		for range 120 {
			switch d.below(14) {
			case 0, 1:
				s = letGo(s)
				freed += len(s.Freed)
				s, _ = fixesStore(t, "a drawn life", s)
			case 2:
				s = letGo(s)
			case 3:
				s, _ = rises(t, "a drawn life", s.Log.Disk)
				lives++
			default:
				next, code := does(t, "a drawn life", s, drawnRec(&d, s))
				codes[code]++
				if (code == 0) == alikeStores(next, s) {
					t.Errorf("seed %d: the code is %d: %s", seed, code, tellStore(next))
				}
				s = next
			}
			tellsNow(t, "a drawn life", s)
			isRightAgain(t, s)
			if t.Failed() {
				t.Fatalf("seed %d", seed)
			}
		}
	}
	if codes[0] < 200 || codes[impl.CodeNo] < 100 || codes[impl.CodeFull] < 50 || freed < 20 || lives < 50 {
		t.Errorf("codes %v, %d freed, risen %d times", codes, freed, lives)
	}
}

// isRightAgain asks of a store in a drawn life that it is right (but for what
// was Freed ahead of records that are told since), and comes up as it is.
func isRightAgain(t *testing.T, s impl.Store) {
	t.Helper()
	if impl.StoreOk(s) != storeRightAsSaid(s) {
		t.Errorf("StoreOk is %v: %s", impl.StoreOk(s), tellStore(s))
	}
	isRightStore(t, "a drawn life, nothing Freed", impl.Store{Log: s.Log})
	risesAs(t, "a drawn life", s)
}

// roomyStore is the same store, with room behind all its lists and texts.
func roomyStore(s impl.Store) impl.Store {
	freed := append(append(make([]int, 0, len(s.Freed)+3), s.Freed...), 55, 56, 57)
	return impl.Store{Log: roomyLog(s.Log), Freed: freed[:len(s.Freed)]}
}

// fullStore has all lists with their spare room in sight, as a copy.
func fullStore(s impl.Store) impl.Store {
	return impl.Store{Log: fullLog(s.Log), Freed: slices.Clone(s.Freed[:cap(s.Freed)])}
}

func scribbleStore(s impl.Store) {
	scribbleLog(s.Log)
	scribbleOver(s.Freed, 66)
}

// answersOfStore is every store that the chapter's functions make of one, and
// what they tell of it.
func answersOfStore(s impl.Store, r impl.Rec) ([]impl.Store, impl.State) {
	did, _ := impl.DoRec(s, r)
	fixed, _ := impl.CheckStore(s)
	risen, _ := impl.RiseStore(s.Log.Disk)
	impl.StoreOk(s)
	return []impl.Store{did, fixed, risen}, impl.StateNow(s)
}

func TestNoStoreIsWrittenOn(t *testing.T) {
	top := sparedStore(0)
	top.Log.Stamp = impl.MaxNumber
	for what, plain := range map[string]impl.Store{
		"nothing Freed": sparedStore(), "one Freed": sparedStore(4), "two Freed": sparedStore(0, 4), "wrong Freed": sparedStore(4, 0, 2), "new": newStore(t, 5),
		"several": {Log: checkedLog(severalLog())}, "full": {Log: checkedLog(fullestLog(6)), Freed: []int{}}, "no room": filledStore(t, 5, 3, 20), "room": filledStore(t, 8, 3, 20),
		"nothing": {}, "Freed alone": {Freed: []int{1, 2}}, "the greatest Stamp": top,
		"wrong numbers": {Log: turned(func(g *impl.Log) { g.NextSeq = 0 }), Freed: []int{0}}, "wrong Items": {Log: turned(func(g *impl.Log) { g.Used[1].Items = plainItems() })},
		"a write that waits": {Log: turned(func(g *impl.Log) { g.Disk.Cache = cacheOf(3, 9) })},
	} {
		for _, y := range []impl.Rec{makeRec(plain.Log.NextValid, "eve", "inbox"), addRec(1, 2, 1, "some text"), addRec(1, 9, 1, bodyOf(100)), dropItem(0, 1).Rec, {User: "U", Name: "N", Text: "T"}} {
			s := roomyStore(plain)
			r, buffers := roomyRec(y)
			before := fullStore(s)
			first, told := answersOfStore(s, r)
			second, again := answersOfStore(s, r)
			third, _ := answersOfStore(s, r)
			texts := slices.Concat(textsOfLog(s.Log), textsOfRecs([]impl.Rec{r}), textsOfState(told), textsOfState(again))
			for _, answer := range slices.Concat(first, second) {
				texts = append(texts, textsOfLog(answer.Log)...)
			}
			noneOfManyShared(t, what, texts)
			for i, answer := range first {
				listsOfTheirOwn(t, what, third[i].Log)
				if !alikeStores(answer, second[i]) {
					t.Errorf("%s: answer %d is another one the next time", what, i)
				}
				kept := fullStore(second[i])
				scribbleStore(answer)
				if !alikeStores(fullStore(second[i]), kept) {
					t.Errorf("%s: two answers share memory", what)
				}
			}
			scribbleState(told)
			if !sameTold(again, stateAsSaid(itemsIn(plain.Log.Used))) {
				t.Errorf("%s: two states share memory", what)
			}
			if !alikeStores(fullStore(s), before) || !alikeStores(s, plain) {
				t.Errorf("%s: the store handed in is written on", what)
			}
			for i, text := range []string{y.User, y.Name, y.Text} {
				if string(buffers[i]) != text+"room behind it" {
					t.Errorf("%s: the record handed in is written on", what)
				}
			}
		}
	}
}

func TestNoStateIsWrittenOnByFitting(t *testing.T) {
	for what, plain := range map[string]impl.State{"boxes": boxesState(), "many": manyState(), "nothing": {}, "wrong": stateWith(boxWith(9, 2, "ann", "a"), boxWith(2, 1, "ann", "a"), impl.Box{})} {
		for _, y := range append(fittingRecs(), impl.Rec{User: "U", Name: "N", Text: "T"}) {
			s := roomyState(plain)
			before := fullState(s)
			r, buffers := roomyRec(y)
			if first, second := impl.Fitting(s, 5, r), impl.Fitting(s, 5, r); first != second || first != fittingAsSaid(plain, 5, y) {
				t.Errorf("%s: Fitting of %+v is %v, then %v", what, y, first, second)
			}
			if !sameTold(fullState(s), before) || !sameTold(s, plain) {
				t.Errorf("%s: the state handed in is written on", what)
			}
			for i, text := range []string{y.User, y.Name, y.Text} {
				if string(buffers[i]) != text+"room behind it" {
					t.Errorf("%s: the record handed in is written on", what)
				}
			}
		}
	}
}

func TestNoNewStoreSharesMemory(t *testing.T) {
	first, second := newStore(t, 6), newStore(t, 6)
	noneOfManyShared(t, "new ones", slices.Concat(textsOfLog(first.Log), textsOfLog(second.Log)))
	scribbleStore(first)
	if !alikeStores(second, impl.Store{Log: formatAsSaid(6)}) {
		t.Error("two new stores share memory")
	}
}

// One store may be asked by many at once: each is answered as if alone.
func TestAStoreIsAskedByManyAtOnce(t *testing.T) {
	s, r := sparedStore(0, 4), addRec(5, 2, 1, strings.Repeat("x", 50))
	did, code := doAsSaid(s, r)
	fixed, _ := fixStoreAsSaid(s)
	wrong := make([]bool, 24)
	var all sync.WaitGroup
	for i := range wrong {
		all.Go(func() {
			got, is := impl.DoRec(s, r)
			done, ok := impl.CheckStore(s)
			up, there := impl.RiseStore(s.Log.Disk)
			wrong[i] = is != code || !alikeStores(got, did) || !ok || !alikeStores(done, fixed) || !there || !alikeLogs(up.Log, s.Log) || !impl.StoreOk(s)
		})
	}
	all.Wait()
	if slices.Contains(wrong, true) {
		t.Errorf("one of many is told something else: %v", wrong)
	}
}
