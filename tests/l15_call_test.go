package tests

import (
	"fmt"
	"math"
	"slices"
	"strings"
	"sync"
	"testing"

	"loop.example/g00287/impl"
)

func callMake(user, box string) impl.Call {
	return impl.Call{Kind: impl.CallMake, User: user, Box: box}
}

func callDrop(user, box string) impl.Call {
	return impl.Call{Kind: impl.CallDrop, User: user, Box: box}
}

func callAdd(user, box string, flags int, text string) impl.Call {
	return impl.Call{Kind: impl.CallAdd, User: user, Box: box, Flags: flags, Text: text}
}

func callFlag(user, box string, uid, flags int) impl.Call {
	return impl.Call{Kind: impl.CallFlag, User: user, Box: box, Uid: uid, Flags: flags}
}

func callExpunge(user, box string, uids ...int) impl.Call {
	return impl.Call{Kind: impl.CallExpunge, User: user, Box: box, Uids: uids}
}

func callCopy(user, box string, uid int, to string) impl.Call {
	return impl.Call{Kind: impl.CallCopy, User: user, Box: box, Uid: uid, To: to}
}

func copyOfCall(c impl.Call) impl.Call {
	c.Uids = slices.Clone(c.Uids)
	return c
}

func alikeCalls(a, b impl.Call) bool {
	uids := slices.Equal(a.Uids, b.Uids)
	return uids && a.Kind == b.Kind && a.User == b.User && a.Box == b.Box && a.To == b.To && a.Uid == b.Uid && a.Flags == b.Flags && a.Text == b.Text
}

// callRightAsSaid and those below are the document's own words.
func callRightAsSaid(c impl.Call) bool {
	in := func(n, from, to int) bool { return from <= n && n <= to }
	if !in(c.Kind, 1, 6) || !wordAsSaid.MatchString(c.User) || !wordAsSaid.MatchString(c.Box) {
		return false
	}
	rest, right := c, true
	rest.Kind, rest.User, rest.Box = 0, "", ""
	if c.Kind == 3 {
		right = len(c.Text) <= 100
		rest.Text = ""
	}
	if c.Kind == 3 || c.Kind == 4 {
		right = right && in(c.Flags, 0, 7)
		rest.Flags = 0
	}
	if c.Kind == 4 || c.Kind == 6 {
		right = right && in(c.Uid, 1, 9999)
		rest.Uid = 0
	}
	if c.Kind == 6 {
		right = right && wordAsSaid.MatchString(c.To)
		rest.To = ""
	}
	if c.Kind == 5 {
		right = len(c.Uids) <= 8
		for i, uid := range c.Uids {
			right = right && in(uid, 1, 9999) && (i == 0 || c.Uids[i-1] < uid)
		}
		rest.Uids = nil
	}
	return right && alikeCalls(rest, impl.Call{})
}

// boxIn is the first box of this User and Name.
func boxIn(s impl.State, user, name string) (impl.Box, bool) {
	for _, b := range s.Boxes {
		if b.User == user && b.Name == name {
			return b, true
		}
	}
	return impl.Box{}, false
}

func mailIn(b impl.Box, uid int) (impl.Mail, bool) {
	for _, m := range b.Mails {
		if m.Uid == uid {
			return m, true
		}
	}
	return impl.Mail{}, false
}

func recsAsSaid(s impl.State, nextvalid int, c impl.Call) ([]impl.Rec, bool) {
	recs := []impl.Rec{}
	box, there := boxIn(s, c.User, c.Box)
	if !callRightAsSaid(c) || there == (c.Kind == 1) {
		return nil, false
	}
	mail, mailThere := mailIn(box, c.Uid)
	if (c.Kind == 4 || c.Kind == 6) && !mailThere {
		return nil, false
	}
	to, toThere := boxIn(s, c.User, c.To)
	switch c.Kind {
	case 1:
		recs = append(recs, makeRec(nextvalid, c.User, c.Box))
	case 2:
		if c.Box == "inbox" {
			return nil, false
		}
		recs = append(recs, dropItem(0, box.Valid).Rec)
	case 3:
		recs = append(recs, addRec(box.Valid, box.Next, c.Flags, c.Text))
	case 4:
		recs = append(recs, flagRec(box.Valid, c.Uid, c.Flags))
	case 5:
		for _, uid := range c.Uids {
			if m, ok := mailIn(box, uid); ok && m.Flags&4 == 4 {
				recs = append(recs, goneItem(0, box.Valid, uid).Rec)
			}
		}
	case 6:
		if !toThere {
			return nil, false
		}
		recs = append(recs, addRec(to.Valid, to.Next, mail.Flags, mail.Text))
	}
	for _, r := range recs {
		if !fittingAsSaid(s, nextvalid, r) {
			return nil, false
		}
		s, nextvalid = takenAsSaid(s, nextvalid, r)
	}
	return recs, true
}

// takenAsSaid is what a record that fits makes of a state; of two boxes with
// one Valid the first one is the record's.
func takenAsSaid(s impl.State, nextvalid int, r impl.Rec) (impl.State, int) {
	s = copyState(s)
	if r.Kind == 1 {
		at := 0
		for at < len(s.Boxes) && s.Boxes[at].Valid <= r.Valid {
			at++
		}
		s.Boxes = slices.Insert(s.Boxes, at, impl.Box{Valid: r.Valid, User: r.User, Name: r.Name, Next: 1})
		return s, nextvalid + 1
	}
	left := impl.State{}
	for _, b := range s.Boxes {
		if b.Valid != r.Valid {
			left.Boxes = append(left.Boxes, b)
		}
	}
	if r.Kind == 2 {
		return left, nextvalid
	}
	b := &s.Boxes[slices.IndexFunc(s.Boxes, func(b impl.Box) bool { return b.Valid == r.Valid })]
	if r.Kind == 3 {
		b.Mails, b.Next = append(b.Mails, impl.Mail{Uid: r.Uid, Flags: r.Flags, Text: r.Text}), r.Uid+1
	}
	stay := []impl.Mail{}
	turned := false
	for _, m := range b.Mails {
		if r.Kind == 5 && m.Uid == r.Uid {
			continue
		}
		if r.Kind == 4 && m.Uid == r.Uid && !turned {
			m.Flags, turned = r.Flags, true
		}
		stay = append(stay, m)
	}
	b.Mails = stay
	return s, nextvalid
}

func modelAsSaid(s impl.State, nextvalid int, c impl.Call) (impl.State, int, int) {
	recs, ok := recsAsSaid(s, nextvalid, c)
	if !ok {
		return s, nextvalid, 1
	}
	for _, r := range recs {
		s, nextvalid = takenAsSaid(s, nextvalid, r)
	}
	return s, nextvalid, 0
}

// roomAsSaid is for how much room a call asks.
func roomAsSaid(recs []impl.Rec) int {
	size := 0
	for _, r := range recs {
		size += recSizeAsSaid(r) + 10
	}
	return size
}

func callAsSaid(s impl.Store, c impl.Call) (impl.Store, int) {
	recs, ok := recsAsSaid(stateAsSaid(itemsIn(s.Log.Used)), s.Log.NextValid, c)
	if !ok {
		return s, 1
	}
	room, _ := makeAsSaid(s, roomAsSaid(recs))
	did := room
	for _, r := range recs {
		next, code := doAsSaid(did, r)
		if code != 0 {
			return room, 2
		}
		did = next
	}
	return did, 0
}

func startAsSaid(s impl.Store, user string) (impl.Store, int) {
	if _, there := boxIn(stateAsSaid(itemsIn(s.Log.Used)), user, "inbox"); there {
		return s, 0
	}
	return callAsSaid(s, callMake(user, "inbox"))
}

// asks asks for CallOk, RecsFor and ModelCall as the document says them, and
// that what is handed in stays as it is.
func asks(t *testing.T, what string, s impl.State, nextvalid int, c impl.Call) ([]impl.Rec, bool) {
	t.Helper()
	before, given := copyState(s), copyOfCall(c)
	if got := impl.CallOk(c); got != callRightAsSaid(c) {
		t.Errorf("%s: CallOk of %#v is %v", what, c, got)
	}
	recs, right := recsAsSaid(s, nextvalid, c)
	got, ok := impl.RecsFor(s, nextvalid, c)
	if ok != right || !slices.Equal(got, recs) {
		t.Errorf("%s: RecsFor of %#v, nextvalid %d, is %+v, %v; not %+v, %v: %+v", what, c, nextvalid, got, ok, recs, right, s)
	}
	want, n, code := modelAsSaid(s, nextvalid, c)
	if told, next, is := impl.ModelCall(s, nextvalid, c); is != code || next != n || !sameTold(told, want) {
		t.Errorf("%s: ModelCall of %#v, nextvalid %d, is %+v, %d, %d; not %+v, %d, %d", what, c, nextvalid, told, next, is, want, n, code)
	}
	if !sameTold(s, before) || !alikeCalls(c, given) {
		t.Errorf("%s: what is handed in is written on", what)
	}
	return got, ok
}

// asksFor asks for these records, spelt out.
func asksFor(t *testing.T, what string, s impl.State, nextvalid int, c impl.Call, want ...impl.Rec) {
	t.Helper()
	if got, ok := asks(t, what, s, nextvalid, c); !ok || !slices.Equal(got, want) {
		t.Errorf("%s: RecsFor of %+v is %+v, %v; not %+v", what, c, got, ok, want)
	}
}

// asksNothing asks for a false, and for CodeNo with all as it was.
func asksNothing(t *testing.T, what string, s impl.State, nextvalid int, c impl.Call) {
	t.Helper()
	if got, ok := asks(t, what, s, nextvalid, c); ok || len(got) > 0 {
		t.Errorf("%s: RecsFor of %+v is %+v, %v: %+v", what, c, got, ok, s)
	}
	if told, n, code := impl.ModelCall(s, nextvalid, c); code != impl.CodeNo || n != nextvalid || !sameTold(told, s) {
		t.Errorf("%s: ModelCall of %+v is %+v, %d, %d", what, c, told, n, code)
	}
}

// models asks for this state, spelt out.
func models(t *testing.T, what string, s impl.State, nextvalid int, c impl.Call, next int, want ...impl.Box) {
	t.Helper()
	asks(t, what, s, nextvalid, c)
	if told, n, code := impl.ModelCall(s, nextvalid, c); code != 0 || n != next || !sameTold(told, stateWith(want...)) {
		t.Errorf("%s: ModelCall of %+v is %+v, %d, %d; not %+v, %d", what, c, told, n, code, want, next)
	}
}

// calls asks for DoCall as the document says it, that what is handed in stays
// as it is, and for promise 15.
func calls(t *testing.T, what string, s impl.Store, c impl.Call) (impl.Store, int) {
	t.Helper()
	before, given := copyOfStore(s), copyOfCall(c)
	want, code := callAsSaid(s, c)
	got, is := impl.DoCall(s, c)
	if is != code || !alikeStores(got, want) {
		t.Errorf("%s: DoCall of %+v is %d, %s; not %d, %s", what, c, is, tellStore(got), code, tellStore(want))
	}
	if !alikeStores(s, before) || !alikeCalls(c, given) {
		t.Errorf("%s: what is handed in is written on", what)
	}
	if storeRightAsSaid(s) {
		callsAsAModel(t, what, s, c, got, is)
	}
	return got, is
}

// callsAsAModel asks that a store that is right told and did what a State alone
// does, and that it comes up so.
func callsAsAModel(t *testing.T, what string, s impl.Store, c impl.Call, got impl.Store, code int) {
	t.Helper()
	now := impl.StateNow(s)
	want, nextvalid, no := impl.ModelCall(now, s.Log.NextValid, c)
	if (no == impl.CodeNo) != (code == impl.CodeNo) {
		t.Errorf("%s: DoCall of %+v is %d, ModelCall is %d", what, c, code, no)
	}
	if code != 0 {
		want, nextvalid = now, s.Log.NextValid
	}
	if told := impl.StateNow(got); !sameTold(told, want) || got.Log.NextValid != nextvalid {
		t.Errorf("%s: behind %+v, code %d, %+v is told, and %d; not %+v, and %d", what, c, code, told, got.Log.NextValid, want, nextvalid)
	}
	if recs, ok := impl.RecsFor(now, s.Log.NextValid, c); code == impl.CodeFull {
		if room := impl.MakeRoom(s, roomAsSaid(recs)); !ok || !alikeStores(got, room) {
			t.Errorf("%s: full, the store is %s; not %s", what, tellStore(got), tellStore(room))
		}
	}
	if code == impl.CodeNo && !alikeStores(got, s) {
		t.Errorf("%s: not as it was: %s", what, tellStore(got))
	}
	tellsNow(t, what, got)
	isRightStore(t, what+", nothing Freed", impl.Store{Log: got.Log})
	risesAs(t, what, got)
}

// called asks for each call that it is done.
func called(t *testing.T, what string, s impl.Store, list ...impl.Call) impl.Store {
	t.Helper()
	for _, c := range list {
		next, code := calls(t, what, s, c)
		if code != 0 {
			t.Fatalf("%s: %+v has the code %d: %s", what, c, code, tellStore(s))
		}
		s = next
	}
	return s
}

// calledWith asks for a code that is not 0: with CodeNo all is as it was, with
// CodeFull as MakeRoom has it.
func calledWith(t *testing.T, what string, s impl.Store, c impl.Call, want int) impl.Store {
	t.Helper()
	got, code := calls(t, what, s, c)
	if code != want || code == impl.CodeNo && !alikeStores(got, s) {
		t.Errorf("%s: %+v has the code %d, not %d: %s", what, c, code, want, tellStore(got))
	}
	return got
}

// starts asks for StartUser as the document says it.
func starts(t *testing.T, what string, s impl.Store, user string, want int) impl.Store {
	t.Helper()
	before := copyOfStore(s)
	store, code := startAsSaid(s, user)
	got, is := impl.StartUser(s, user)
	if is != code || is != want || !alikeStores(got, store) {
		t.Errorf("%s: StartUser of %q is %d, %s; not %d, %s", what, user, is, tellStore(got), code, tellStore(store))
	}
	if !alikeStores(s, before) {
		t.Errorf("%s: the store handed in is written on", what)
	}
	return got
}

// plainCalls has one of each Kind with nothing at an edge.
func plainCalls() []impl.Call {
	return []impl.Call{
		callMake("ann", "new"), callDrop("ann", "old"), callAdd("ann", "inbox", 3, "hi"),
		callFlag("ann", "inbox", 3, 2), callExpunge("ann", "inbox", 1, 2, 3), callCopy("ann", "inbox", 3, "old"),
	}
}

// edgeCalls has of each Kind those with what it uses at its least and at its
// greatest.
func edgeCalls() []impl.Call {
	z, top := "zzzzzzzz", impl.MaxValid
	return []impl.Call{
		callMake("a", "a"), callMake(z, z), callDrop("a", "a"), callDrop(z, z), callDrop("ann", "inbox"),
		callAdd("a", "a", 0, ""), callAdd(z, z, 7, bodyOf(impl.MaxText9)), callFlag("a", "a", 1, 0), callFlag(z, z, top, 7),
		callExpunge("a", "a"), {Kind: impl.CallExpunge, User: "a", Box: "a", Uids: []int{}}, callExpunge("a", "a", 1), callExpunge("a", "a", top), callExpunge("a", "a", 1, top),
		callExpunge(z, z, 1, 2, 3, 4, 5, 6, 7, 8), callExpunge(z, z, top-7, top-6, top-5, top-4, top-3, top-2, top-1, top),
		callCopy("a", "a", 1, "a"), callCopy(z, z, top, z), callCopy("a", "b", 1, "b"),
		{Kind: impl.CallMake, User: "ann", Box: "box", Uids: []int{}}, {Kind: impl.CallCopy, User: "ann", Box: "box", To: "old", Uid: 1, Uids: []int{}},
	}
}

func rightCalls() []impl.Call {
	list := slices.Concat(plainCalls(), edgeCalls())
	for _, word := range rightWords {
		for _, c := range plainCalls() {
			c.User = word
			list = append(list, c)
			c.Box = word
			list = append(list, c)
		}
		list = append(list, callCopy("ann", "inbox", 3, word))
	}
	for _, uid := range rightValids {
		list = append(list, callFlag("ann", "inbox", uid, 1), callCopy("ann", "inbox", uid, "old"), callExpunge("ann", "inbox", uid))
	}
	for flags := range 8 {
		list = append(list, callAdd("ann", "inbox", flags, "hi"), callFlag("ann", "inbox", 3, flags))
	}
	for _, text := range rightTexts {
		list = append(list, callAdd("ann", "inbox", 0, text))
	}
	return list
}

// wrongUids are lists of Uids that are not right: of a number, of an order, and
// too many.
func wrongUids() [][]int {
	top := impl.MaxValid
	list := [][]int{
		{1, 1}, {1, 1, 2}, {1, 2, 2}, {1, 2, 2, 3}, {2, 1}, {1, 3, 2}, {2, 1, 3}, {3, 2, 1}, {1, 2, 1}, {top, 1}, {top, top}, {top, top - 1},
		{1, 2, 3, 4, 5, 6, 7, 8, 9}, {1, 2, 3, 4, 5, 6, 7, 8, 8}, {1, 2, 3, 4, 5, 6, 8, 7}, {2, 2, 3, 4, 5, 6, 7, 8},
		{top - 8, top - 7, top - 6, top - 5, top - 4, top - 3, top - 2, top - 1, top}, {0, 1}, {-1, 1}, {-2, -1}, {1, top + 1}, {top, top + 1}, {1, 2, top + 1}, {0, 1, 2}, {math.MinInt, 1}, {1, math.MaxInt},
	}
	for _, uid := range wrongValids {
		list = append(list, []int{uid})
	}
	many := []int{}
	for uid := range 300 {
		many = append(many, uid+1)
	}
	return append(list, many)
}

// turnedCalls has c with each field turned to each of these, where the Kind
// uses it to what is wrong there, and else to what is not zero.
func turnedCalls(c impl.Call) []impl.Call {
	list := []impl.Call{}
	turn := func(change func(*impl.Call)) {
		x := copyOfCall(c)
		change(&x)
		list = append(list, x)
	}
	uids, flags, texts, tos := notZero, notZero, []string{"a", "hi", "\x00", bodyOf(100), bodyOf(101)}, []string{"a", "old", "A", "\x00", "abcdefghi"}
	lists := [][]int{{0}, {1}, {1, 2}, {impl.MaxValid}, {-1}, {1, 2, 3, 4, 5, 6, 7, 8, 9}}
	switch c.Kind {
	case impl.CallAdd:
		flags, texts = wrongFlags, wrongTexts
	case impl.CallFlag:
		uids, flags = wrongValids, wrongFlags
	case impl.CallExpunge:
		lists = wrongUids()
	case impl.CallCopy:
		uids, tos = wrongValids, wrongWords
	}
	for _, kind := range append([]int{0, 7, 8, -1, -6, 256 + c.Kind, 1<<32 + c.Kind, math.MaxInt, math.MinInt}, math.MinInt+c.Kind) {
		turn(func(x *impl.Call) { x.Kind = kind })
	}
	for _, word := range wrongWords {
		turn(func(x *impl.Call) { x.User = word })
		turn(func(x *impl.Call) { x.Box = word })
	}
	for _, to := range tos {
		turn(func(x *impl.Call) { x.To = to })
	}
	for _, uid := range uids {
		turn(func(x *impl.Call) { x.Uid = uid })
	}
	for _, list := range lists {
		turn(func(x *impl.Call) { x.Uids = list })
	}
	for _, n := range flags {
		turn(func(x *impl.Call) { x.Flags = n })
	}
	for _, text := range texts {
		turn(func(x *impl.Call) { x.Text = text })
	}
	return list
}

func wrongCalls() []impl.Call {
	list := []impl.Call{{}, {User: "ann", Box: "inbox"}}
	for kind := 1; kind <= 6; kind++ {
		list = append(list,
			impl.Call{Kind: kind},
			impl.Call{Kind: kind, User: "ann"},
			impl.Call{Kind: kind, Box: "inbox"},
			impl.Call{Kind: kind, User: "ann", Box: "inbox", To: "old", Uid: 1, Uids: []int{1}, Flags: 1, Text: "hi"},
			impl.Call{Kind: kind, User: "ann", Box: "inbox", Uid: math.MinInt, Flags: math.MinInt})
	}
	for _, c := range plainCalls() {
		list = append(list, turnedCalls(c)...)
	}
	return list
}

func TestCallKinds(t *testing.T) {
	if impl.CallMake != 1 || impl.CallDrop != 2 || impl.CallAdd != 3 || impl.CallFlag != 4 || impl.CallExpunge != 5 || impl.CallCopy != 6 {
		t.Error("a Kind is not what the document says")
	}
}

func TestCallOk(t *testing.T) {
	for _, c := range rightCalls() {
		if !impl.CallOk(c) || !callRightAsSaid(c) {
			t.Errorf("not right: %#v", c)
		}
	}
	for _, c := range wrongCalls() {
		if impl.CallOk(c) || callRightAsSaid(c) {
			t.Errorf("right: %#v", c)
		}
	}
}

// Each Kind with each field at zero or not.
func TestCallOkOfEveryChoiceOfFields(t *testing.T) {
	right := 0
	for kind := -1; kind < 9; kind++ {
		for choice := range 1 << 7 {
			has := func(i int) int { return choice >> i & 1 }
			c := impl.Call{Kind: kind, Uid: has(0), Flags: has(1), User: strings.Repeat("a", has(2)), Box: strings.Repeat("b", has(3)),
				To: strings.Repeat("c", has(4)), Text: strings.Repeat("d", has(5)), Uids: slices.Repeat([]int{1}, has(6))}
			got := impl.CallOk(c)
			if got != callRightAsSaid(c) {
				t.Errorf("CallOk of %#v is %v", c, got)
			}
			if got {
				right++
			}
		}
	}
	// One each of the first two, four and two with Flags, two and one more.
	if right != 1+1+4+2+2+1 {
		t.Errorf("%d are right", right)
	}
}

// callState has boxes of two users, one of them full.
func callState() impl.State {
	return stateWith(
		impl.Box{Valid: 2, User: "ann", Name: "inbox", Next: 6, Mails: []impl.Mail{{Uid: 1, Flags: 4, Text: "one"}, {Uid: 2, Flags: 3, Text: "two"}, {Uid: 3, Flags: 7, Text: "three"}, {Uid: 5, Text: "five"}}},
		boxWith(3, 8, "bob", "inbox"),
		impl.Box{Valid: 5, User: "ann", Name: "old", Next: 9, Mails: []impl.Mail{{Uid: 8, Flags: 4, Text: "eight"}}})
}

func TestRecsFor(t *testing.T) {
	s := callState()
	for _, c := range []struct {
		what string
		call impl.Call
		want []impl.Rec
	}{
		{"a box", callMake("ann", "new"), []impl.Rec{makeRec(7, "ann", "new")}},
		{"a box of another user", callMake("bob", "old"), []impl.Rec{makeRec(7, "bob", "old")}},
		{"a box of a user without boxes", callMake("cid", "bin"), []impl.Rec{makeRec(7, "cid", "bin")}},
		{"an inbox", callMake("cid", "inbox"), []impl.Rec{makeRec(7, "cid", "inbox")}},
		{"a drop", callDrop("ann", "old"), []impl.Rec{dropItem(0, 5).Rec}},
		{"a mail", callAdd("ann", "inbox", 3, "hi"), []impl.Rec{addRec(2, 6, 3, "hi")}},
		{"a mail in another box", callAdd("ann", "old", 0, ""), []impl.Rec{addRec(5, 9, 0, "")}},
		{"a long mail", callAdd("ann", "old", 7, bodyOf(100)), []impl.Rec{addRec(5, 9, 7, bodyOf(100))}},
		{"Flags", callFlag("ann", "inbox", 3, 2), []impl.Rec{flagRec(2, 3, 2)}},
		{"no Flags", callFlag("ann", "inbox", 1, 0), []impl.Rec{flagRec(2, 1, 0)}},
		{"the same Flags", callFlag("ann", "inbox", 3, 7), []impl.Rec{flagRec(2, 3, 7)}},
		{"Flags of a mail in a full box", callFlag("bob", "inbox", 8, 4), []impl.Rec{flagRec(3, 8, 4)}},
		{"a copy", callCopy("ann", "inbox", 3, "old"), []impl.Rec{addRec(5, 9, 7, "three")}},
		{"a copy the other way", callCopy("ann", "old", 8, "inbox"), []impl.Rec{addRec(2, 6, 4, "eight")}},
		{"a copy into the same box", callCopy("ann", "inbox", 2, "inbox"), []impl.Rec{addRec(2, 6, 3, "two")}},
		{"a copy without Flags", callCopy("ann", "inbox", 5, "old"), []impl.Rec{addRec(5, 9, 0, "five")}},
	} {
		asksFor(t, c.what, s, 7, c.call, c.want...)
	}
}

func TestRecsForAnExpunge(t *testing.T) {
	s := callState()
	gone := func(valid int, uids ...int) []impl.Rec {
		list := []impl.Rec{}
		for _, uid := range uids {
			list = append(list, goneItem(0, valid, uid).Rec)
		}
		return list
	}
	for _, c := range []struct {
		what       string
		uids, want []int
	}{
		{"all have it", []int{1, 3}, []int{1, 3}}, {"some have it", []int{1, 2, 3, 5}, []int{1, 3}}, {"the last one has it", []int{2, 3}, []int{3}}, {"the first one has it", []int{1, 2}, []int{1}},
		{"none has it", []int{2, 5}, nil}, {"one that has it", []int{3}, []int{3}}, {"one that has not", []int{5}, nil}, {"none is named", nil, nil},
		{"some are not there", []int{1, 3, 4, 6, 9999}, []int{1, 3}}, {"none is there", []int{4, 6, 7, 8, 100}, nil}, {"one that went, between", []int{3, 4, 5}, []int{3}}, {"one that another box has", []int{8}, nil},
	} {
		asksFor(t, c.what, s, 7, callExpunge("ann", "inbox", c.uids...), gone(2, c.want...)...)
	}
	asksFor(t, "another box", s, 7, callExpunge("ann", "old", 1, 3, 8), gone(5, 8)...)
	asksFor(t, "of a full box none", s, 7, callExpunge("bob", "inbox", 1, 2, 3, 4, 5, 6, 7, 8))
	// Of the eight Flags those with FlagDeleted count, whatever is beside it.
	box := boxWith(1, 8, "ann", "inbox")
	for i := range box.Mails {
		box.Mails[i].Flags = i
	}
	asksFor(t, "each of the Flags", stateWith(box), 2, callExpunge("ann", "inbox", 1, 2, 3, 4, 5, 6, 7, 8), gone(1, 5, 6, 7, 8)...)
	for i := range box.Mails {
		box.Mails[i].Flags = 4
	}
	asksFor(t, "as many as may be", stateWith(box), 2, callExpunge("ann", "inbox", 1, 2, 3, 4, 5, 6, 7, 8), gone(1, 1, 2, 3, 4, 5, 6, 7, 8)...)
	far := impl.Box{Valid: impl.MaxValid, User: "ann", Name: "inbox", Next: impl.MaxValid + 1, Mails: []impl.Mail{{Uid: 1, Flags: 4}, {Uid: impl.MaxValid, Flags: 5}}}
	asksFor(t, "the greatest numbers", stateWith(far), impl.MaxValid+1, callExpunge("ann", "inbox", 1, impl.MaxValid), gone(impl.MaxValid, 1, impl.MaxValid)...)
}

func TestRecsForWhatIsNotThere(t *testing.T) {
	s := callState()
	for what, c := range map[string]impl.Call{
		"a box that is there": callMake("ann", "old"), "an inbox that is there": callMake("bob", "inbox"),
		"a drop of a box that is not": callDrop("ann", "new"), "a drop of another user's box": callDrop("bob", "old"), "a drop of nobody's": callDrop("cid", "old"), "User and Name for each other": callDrop("old", "ann"),
		"a drop of an inbox": callDrop("ann", "inbox"), "a drop of another inbox": callDrop("bob", "inbox"), "a drop of an inbox that is not": callDrop("cid", "inbox"),
		"a mail in a box that is not": callAdd("ann", "new", 0, "a"), "a mail in another user's box": callAdd("bob", "old", 0, "a"), "a mail to nobody": callAdd("cid", "inbox", 0, "a"), "a mail in a full box": callAdd("bob", "inbox", 0, "a"),
		"Flags in a box that is not": callFlag("ann", "new", 1, 0), "Flags in another user's box": callFlag("bob", "old", 8, 0),
		"Flags of a mail that went": callFlag("ann", "inbox", 4, 0), "Flags of one that never was": callFlag("ann", "inbox", 6, 0), "Flags of one in another box": callFlag("ann", "inbox", 8, 0), "Flags of the greatest Uid": callFlag("ann", "inbox", 9999, 0),
		"an expunge of a box that is not": callExpunge("ann", "new", 1), "an expunge of another user's": callExpunge("bob", "old", 8), "an expunge of nobody's": callExpunge("cid", "inbox"),
		"a copy from a box that is not": callCopy("ann", "new", 1, "old"), "a copy from another user's": callCopy("bob", "old", 8, "inbox"), "a copy of a mail that went": callCopy("ann", "inbox", 4, "old"),
		"a copy of one in the other box": callCopy("ann", "inbox", 8, "old"), "a copy to a box that is not": callCopy("ann", "inbox", 1, "new"), "a copy to another user's": callCopy("ann", "inbox", 1, "bob"),
		"a copy within a full box": callCopy("bob", "inbox", 1, "inbox"), "a copy of what is not to what is not": callCopy("ann", "new", 1, "bin"),
		"a name that another begins with": callAdd("ann", "ol", 0, "a"), "a name that begins with another": callAdd("ann", "olds", 0, "a"), "a user that another begins with": callAdd("an", "inbox", 0, "a"), "words cut elsewhere": callAdd("anni", "nbox", 0, "a"),
	} {
		asksNothing(t, what, s, 7, c)
		asksNothing(t, what+", no boxes", impl.State{}, 7, func() impl.Call { c.Kind = max(c.Kind, impl.CallDrop); return c }())
	}
	for _, c := range wrongCalls() {
		asksNothing(t, "a wrong call", s, 7, c)
	}
	// Users and boxes that are no words, though a state that is not right has
	// them.
	for _, word := range wrongWords {
		for _, b := range []impl.Box{{Valid: 1, User: word, Name: "inbox", Next: 2, Mails: []impl.Mail{{Uid: 1, Flags: 4}}}, {Valid: 1, User: "ann", Name: word, Next: 2, Mails: []impl.Mail{{Uid: 1, Flags: 4}}}} {
			for _, c := range []impl.Call{callDrop(b.User, b.Name), callAdd(b.User, b.Name, 0, "a"), callFlag(b.User, b.Name, 1, 1), callExpunge(b.User, b.Name, 1), callExpunge(b.User, b.Name), callCopy(b.User, b.Name, 1, b.Name), callCopy(b.User, b.Name, 1, "old")} {
				asksNothing(t, "no word", stateWith(b, boxWith(2, 0, b.User, "old")), 7, c)
			}
		}
	}
}

// A user has so many boxes, a box so many mails, and each number its end.
func TestRecsForWhatIsNotFitting(t *testing.T) {
	for n := range 5 {
		s := impl.State{}
		for i := range n {
			s.Boxes = append(s.Boxes, boxWith(2*i+1, 0, "eve", string(rune('a'+i))), boxWith(2*i+2, 0, "bob", string(rune('a'+i))))
		}
		what := fmt.Sprint(n, " boxes")
		if n < impl.MaxBoxes {
			asksFor(t, what, s, 99, callMake("eve", "new"), makeRec(99, "eve", "new"))
		} else {
			asksNothing(t, what, s, 99, callMake("eve", "new"))
		}
		asksFor(t, what, s, 99, callMake("fay", "new"), makeRec(99, "fay", "new"))
	}
	for n := range 11 {
		s := stateWith(boxWith(4, n, "ann", "inbox"), boxWith(5, 1, "ann", "old"))
		what := fmt.Sprint(n, " mails")
		for _, c := range []impl.Call{callAdd("ann", "inbox", 0, ""), callCopy("ann", "old", 1, "inbox")} {
			if n < impl.MaxMails {
				asksFor(t, what, s, 6, c, addRec(4, n+1, 0, ""))
			} else {
				asksNothing(t, what, s, 6, c)
			}
		}
		if n > 0 {
			asksFor(t, what, s, 6, callCopy("ann", "inbox", n, "old"), addRec(5, 2, 0, ""))
		}
	}
	for _, n := range []int{math.MinInt, -1, 0, 1, 2, 127, 128, 5000, impl.MaxValid - 1, impl.MaxValid, impl.MaxValid + 1, impl.MaxNumber, math.MaxInt} {
		s := stateWith(impl.Box{Valid: 50, User: "ann", Name: "inbox", Next: n}, boxWith(51, 1, "ann", "old"))
		if 1 <= n && n <= impl.MaxValid {
			asksFor(t, "a nextvalid", callState(), n, callMake("ann", "new"), makeRec(n, "ann", "new"))
			asksFor(t, "a Next", s, 60, callAdd("ann", "inbox", 1, "a"), addRec(50, n, 1, "a"))
			asksFor(t, "a Next", s, 60, callCopy("ann", "old", 1, "inbox"), addRec(50, n, 0, ""))
		} else {
			asksNothing(t, "a nextvalid", callState(), n, callMake("ann", "new"))
			asksNothing(t, "a Next", s, 60, callAdd("ann", "inbox", 1, "a"))
			asksNothing(t, "a Next", s, 60, callCopy("ann", "old", 1, "inbox"))
		}
		// Of all else nextvalid is not asked.
		for i, c := range plainCalls()[1:] {
			if _, ok := asks(t, "a nextvalid", callState(), n, c); !ok {
				t.Errorf("nextvalid %d, %d: nothing", n, i)
			}
		}
	}
}

// In states that are not right, boxes are looked for by User and Name, and
// their records fit, or don't, by Valid.
func TestRecsForOfWrongStates(t *testing.T) {
	mails := func(uids ...int) []impl.Mail {
		list := []impl.Mail{}
		for _, uid := range uids {
			list = append(list, impl.Mail{Uid: uid, Flags: 4, Text: fmt.Sprint(uid)})
		}
		return list
	}
	two := stateWith(impl.Box{Valid: 4, User: "bob", Name: "inbox", Next: 4, Mails: mails(1, 3)}, impl.Box{Valid: 4, User: "ann", Name: "inbox", Next: 4, Mails: mails(1, 2, 3)}, impl.Box{Valid: 5, User: "ann", Name: "old", Next: 9})
	asksFor(t, "each is Fitting", two, 6, callExpunge("ann", "inbox", 1, 3), goneItem(0, 4, 1).Rec, goneItem(0, 4, 3).Rec)
	asksNothing(t, "the first one is Fitting alone", two, 6, callExpunge("ann", "inbox", 1, 2))
	asksNothing(t, "the last one alone is not", two, 6, callExpunge("ann", "inbox", 1, 2, 3))
	asksNothing(t, "the first one is not", two, 6, callExpunge("ann", "inbox", 2, 3))
	asksFor(t, "a mail that both have", two, 6, callFlag("ann", "inbox", 1, 2), flagRec(4, 1, 2))
	asksNothing(t, "a mail that just one of them has", two, 6, callFlag("ann", "inbox", 2, 2))
	asksNothing(t, "a mail that just the other has", stateWith(two.Boxes[1], two.Boxes[0]), 6, callFlag("bob", "inbox", 2, 2))
	asksFor(t, "a mail that both have", stateWith(two.Boxes[1], two.Boxes[0]), 6, callFlag("ann", "inbox", 2, 2), flagRec(4, 2, 2))
	asksFor(t, "a drop of both", stateWith(two.Boxes[2], boxWith(5, 1, "bob", "bin")), 6, callDrop("bob", "bin"), dropItem(0, 5).Rec)
	asksFor(t, "a copy of the second", two, 6, callCopy("ann", "inbox", 2, "old"), addRec(5, 9, 4, "2"))
	twice := stateWith(boxWith(1, 2, "ann", "inbox"), boxWith(3, 0, "ann", "inbox"))
	asksFor(t, "the first of a name", twice, 6, callAdd("ann", "inbox", 0, "a"), addRec(1, 3, 0, "a"))
	asksNothing(t, "the first of a name", twice, 6, callMake("ann", "inbox"))
	asksFor(t, "a Valid that is there", callState(), 3, callMake("ann", "new"), makeRec(3, "ann", "new"))
	odd := stateWith(impl.Box{Valid: 1, User: "ann", Name: "inbox", Next: 2, Mails: []impl.Mail{{Uid: 9, Flags: 12}, {Uid: 2, Flags: -1}, {Uid: 3, Flags: 8}, {Uid: 2, Flags: 0}, {Uid: 5, Flags: 1, Text: bodyOf(101)}}})
	asksFor(t, "Flags that are not right", odd, 2, callExpunge("ann", "inbox", 2, 3, 9), goneItem(0, 1, 2).Rec, goneItem(0, 1, 9).Rec)
	asksNothing(t, "a copy of Flags that are not right", odd, 2, callCopy("ann", "inbox", 9, "inbox"))
	asksNothing(t, "a copy of a Text that is too long", odd, 2, callCopy("ann", "inbox", 5, "inbox"))
	asksFor(t, "Flags in their place", odd, 2, callFlag("ann", "inbox", 9, 0), flagRec(1, 9, 0))
	for _, valid := range []int{0, -1, impl.MaxValid + 1, math.MaxInt} {
		wrong := stateWith(impl.Box{Valid: valid, User: "ann", Name: "old", Next: 2, Mails: mails(1)})
		for _, c := range []impl.Call{callDrop("ann", "old"), callAdd("ann", "old", 0, ""), callFlag("ann", "old", 1, 0), callExpunge("ann", "old", 1), callCopy("ann", "old", 1, "old")} {
			asksNothing(t, "a Valid that is not right", wrong, 2, c)
		}
		asksFor(t, "a Valid that is not right, nothing to be told", wrong, 2, callExpunge("ann", "old", 2))
	}
	for what, s := range turnedStates() {
		for _, c := range append(plainCalls(), callMake("bob", "old"), callDrop("ann", "bin"), callExpunge("ann", "inbox", 1, 2), callCopy("ann", "inbox", 1, "old"), callAdd("bob", "inbox", 1, "a")) {
			asks(t, what, s, 6, c)
		}
	}
}

func TestModelCall(t *testing.T) {
	s := callState()
	at := func(i int, turn func(*impl.Box)) []impl.Box {
		list := copyState(s).Boxes
		turn(&list[i])
		return list
	}
	fresh := impl.Box{Valid: 7, User: "ann", Name: "new", Next: 1}
	models(t, "a box", s, 7, callMake("ann", "new"), 8, append(copyState(s).Boxes, fresh)...)
	models(t, "a drop", s, 7, callDrop("ann", "old"), 7, s.Boxes[:2]...)
	models(t, "a mail", s, 7, callAdd("ann", "inbox", 3, "hi"), 7, at(0, func(b *impl.Box) { b.Next, b.Mails = 7, append(b.Mails, impl.Mail{Uid: 6, Flags: 3, Text: "hi"}) })...)
	models(t, "Flags", s, 7, callFlag("ann", "inbox", 3, 2), 7, at(0, func(b *impl.Box) { b.Mails[2].Flags = 2 })...)
	models(t, "an expunge of some", s, 7, callExpunge("ann", "inbox", 1, 2, 3, 4), 7, at(0, func(b *impl.Box) { b.Mails = []impl.Mail{b.Mails[1], b.Mails[3]} })...)
	models(t, "an expunge of one", s, 7, callExpunge("ann", "inbox", 3), 7, at(0, func(b *impl.Box) { b.Mails = slices.Delete(b.Mails, 2, 3) })...)
	models(t, "an expunge of all", s, 7, callExpunge("ann", "old", 8), 7, at(2, func(b *impl.Box) { b.Mails = nil })...)
	models(t, "an expunge of none", s, 7, callExpunge("ann", "inbox", 2, 5), 7, s.Boxes...)
	models(t, "an expunge without Uids", s, 7, callExpunge("bob", "inbox"), 7, s.Boxes...)
	models(t, "a copy", s, 7, callCopy("ann", "inbox", 3, "old"), 7, at(2, func(b *impl.Box) { b.Next, b.Mails = 10, append(b.Mails, impl.Mail{Uid: 9, Flags: 7, Text: "three"}) })...)
	models(t, "a copy into the same box", s, 7, callCopy("ann", "inbox", 3, "inbox"), 7, at(0, func(b *impl.Box) { b.Next, b.Mails = 7, append(b.Mails, impl.Mail{Uid: 6, Flags: 7, Text: "three"}) })...)
	models(t, "the first box", impl.State{}, 1, callMake("ann", "inbox"), 2, impl.Box{Valid: 1, User: "ann", Name: "inbox", Next: 1})
	models(t, "the last Uid", stateWith(impl.Box{Valid: 1, User: "ann", Name: "inbox", Next: impl.MaxValid}), 2, callAdd("ann", "inbox", 0, ""), 2,
		impl.Box{Valid: 1, User: "ann", Name: "inbox", Next: impl.MaxValid + 1, Mails: []impl.Mail{{Uid: impl.MaxValid}}})
	models(t, "the last Valid", impl.State{}, impl.MaxValid, callMake("ann", "inbox"), impl.MaxValid+1, impl.Box{Valid: impl.MaxValid, User: "ann", Name: "inbox", Next: 1})
	// Numbers below those that are there: boxes ascend still.
	for valid, place := range map[int]int{1: 0, 4: 2, 6: 3, 9999: 3} {
		fresh.Valid = valid
		models(t, "a lesser nextvalid", s, valid, callMake("ann", "new"), valid+1, slices.Insert(copyState(s).Boxes, place, fresh)...)
	}
	for _, n := range []int{0, -1, impl.MaxValid + 1, math.MaxInt, math.MinInt} {
		asksNothing(t, "no Valid to give", s, n, callMake("ann", "new"))
		models(t, "a mail needs none", s, n, callFlag("ann", "inbox", 5, 7), n, at(0, func(b *impl.Box) { b.Mails[3].Flags = 7 })...)
	}
}

// What a call makes of a State is what its records tell beside those of which
// the State is told.
func TestModelCallIsWhatTheRecordsTell(t *testing.T) {
	d, seen := drawing(15), map[int]int{}
	for range 6000 {
		list := givenItems(&d)
		s, nextvalid := impl.StateOf(list), impl.ValidAfter(list)
		c := drawnCall(&d, s)
		recs, ok := asks(t, "drawn", s, nextvalid, c)
		told, next, code := impl.ModelCall(s, nextvalid, c)
		for _, r := range recs {
			last := greatest(list, func(x impl.Item) int { return x.Seq })
			list = append(list, impl.Item{Seq: last + 1, Rec: r})
		}
		if !sameTold(told, impl.StateOf(list)) || next != impl.ValidAfter(list) {
			t.Fatalf("%+v of %+v is %+v, %d; its records tell %+v", c, s, told, next, impl.StateOf(list))
		}
		if ok {
			seen[c.Kind]++
		}
		if ok != (code == 0) || code == 0 && impl.StateOk(s) && nextvalid <= impl.MaxValid && !impl.StateOk(told) {
			t.Fatalf("%+v of %+v is %+v, %d", c, s, told, code)
		}
	}
	for kind := 1; kind <= 6; kind++ {
		if seen[kind] < 50 {
			t.Errorf("of Kind %d just %d are done", kind, seen[kind])
		}
	}
}

// givenItems are drawn items with Seqs behind them, without Flags of mails that
// never came: these would count when one comes.
func givenItems(d *drawing) []impl.Item {
	list := d.items(1 + d.below(30))
	for i := range list {
		list[i].Seq = 1 + list[i].Seq%1000
	}
	return slices.DeleteFunc(slices.Clone(list), func(x impl.Item) bool {
		return x.Rec.Kind == impl.RecFlag && len(those(list, impl.RecAdd, x.Rec.Valid, x.Rec.Uid)) == 0
	})
}

// drawnCall is mostly one that can be done, else one that is near to it.
func drawnCall(d *drawing, s impl.State) impl.Call {
	user, name := []string{"ann", "bob", "cid"}[d.below(3)], []string{"inbox", "old", "bin", "new"}[d.below(4)]
	if len(s.Boxes) == 0 || d.below(8) == 0 {
		return callMake(user, name)
	}
	b := s.Boxes[d.below(len(s.Boxes))]
	uid := d.of(1, max(1, b.Next-1), min(b.Next, impl.MaxValid))
	if len(b.Mails) > 0 && d.below(6) > 0 {
		uid = b.Mails[d.below(len(b.Mails))].Uid
	}
	switch c := d.of(2, 3, 3, 3, 3, 3, 4, 4, 4, 5, 5, 6, 6, 9); c {
	case impl.CallDrop:
		return callDrop(b.User, b.Name)
	case impl.CallAdd:
		return callAdd(b.User, b.Name, d.below(8), bodyOf(d.of(0, 3, 20, 60, 100, 100, 101)))
	case impl.CallFlag:
		return callFlag(b.User, b.Name, uid, d.below(9))
	case impl.CallExpunge:
		uids := []int{}
		for _, m := range b.Mails {
			if d.below(4) > 0 && len(uids) < impl.MaxMails {
				uids = append(uids, m.Uid)
			}
		}
		return callExpunge(b.User, b.Name, uids...)
	case impl.CallCopy:
		names := append(impl.BoxesOf(s, b.User), name)
		return callCopy(b.User, b.Name, uid, names[d.below(len(names))])
	}
	return impl.Call{Kind: d.below(8), User: user, Box: name, To: d.pick("", "", "old"), Uid: d.of(0, 0, 1, 2), Flags: d.of(0, 0, 4), Text: d.pick("", "", "a")}
}

func (d *drawing) pick(list ...string) string {
	return list[d.below(len(list))]
}

// One store, from a new disk on, each call spelt out.
func TestDoCallOfAKnownLife(t *testing.T) {
	for segs := impl.MinSegs; segs <= impl.MaxSegs; segs++ {
		s := newStore(t, segs)
		step := func(c impl.Call, nextSeq, nextValid int, boxes ...impl.Box) {
			t.Helper()
			s = called(t, "a known life", s, c)
			tellsBoxes(t, "a known life", s, boxes...)
			if g := s.Log; g.NextSeq != nextSeq || g.NextValid != nextValid || g.Stamp != 1 || g.Segs != segs || len(s.Freed) > 0 {
				t.Fatalf("behind %+v: %s", c, tellStore(s))
			}
		}
		inbox, old := impl.Box{Valid: 1, User: "ann", Name: "inbox", Next: 1}, impl.Box{Valid: 2, User: "ann", Name: "old", Next: 1}
		step(callMake("ann", "inbox"), 2, 2, inbox)
		inbox.Next, inbox.Mails = 2, []impl.Mail{{Uid: 1, Text: "hi"}}
		step(callAdd("ann", "inbox", 0, "hi"), 3, 2, inbox)
		inbox.Next, inbox.Mails = 3, []impl.Mail{{Uid: 1, Text: "hi"}, {Uid: 2, Flags: 3}}
		step(callAdd("ann", "inbox", 3, ""), 4, 2, inbox)
		inbox.Mails = []impl.Mail{{Uid: 1, Flags: 6, Text: "hi"}, {Uid: 2, Flags: 3}}
		step(callFlag("ann", "inbox", 1, 6), 5, 2, inbox)
		step(callMake("ann", "old"), 6, 3, inbox, old)
		old.Next, old.Mails = 2, []impl.Mail{{Uid: 1, Flags: 6, Text: "hi"}}
		step(callCopy("ann", "inbox", 1, "old"), 7, 3, inbox, old)
		inbox.Next, inbox.Mails = 4, append(inbox.Mails, impl.Mail{Uid: 3, Flags: 6, Text: "hi"})
		step(callCopy("ann", "inbox", 1, "inbox"), 8, 3, inbox, old)
		step(callExpunge("ann", "inbox", 2), 8, 3, inbox, old)
		inbox.Mails = inbox.Mails[1:2]
		step(callExpunge("ann", "inbox", 1, 2, 3), 10, 3, inbox, old)
		step(callExpunge("ann", "inbox", 1, 2, 3), 10, 3, inbox, old)
		step(callDrop("ann", "old"), 11, 3, inbox)
		step(callMake("bob", "inbox"), 12, 4, inbox, impl.Box{Valid: 3, User: "bob", Name: "inbox", Next: 1})
		old = impl.Box{Valid: 4, User: "ann", Name: "old", Next: 1}
		step(callMake("ann", "old"), 13, 5, inbox, impl.Box{Valid: 3, User: "bob", Name: "inbox", Next: 1}, old)
		for what, c := range map[string]impl.Call{
			"a box that is there": callMake("ann", "old"), "a drop of an inbox": callDrop("ann", "inbox"), "a drop of none": callDrop("bob", "old"), "a mail to none": callAdd("bob", "old", 0, ""),
			"a mail that went": callFlag("ann", "inbox", 1, 0), "a mail that never was": callFlag("ann", "inbox", 4, 0), "a copy to none": callCopy("ann", "inbox", 2, "new"), "an expunge of none": callExpunge("cid", "inbox"),
			"Flags too great": callFlag("ann", "inbox", 2, 8), "a Text too long": callAdd("ann", "inbox", 0, bodyOf(101)), "nothing": {},
		} {
			calledWith(t, what, s, c, impl.CodeNo)
		}
	}
}

// mailStore has so many segments in use, of which the head has so many bytes
// left, two boxes of ann, and in the first one mails of whom some have
// FlagDeleted.
func mailStore(t *testing.T, segs, used, left int, freed ...int) impl.Store {
	t.Helper()
	list := slices.Clone(filledStore(t, segs, used, left).Log.Used)
	list[0] = segOf(list[0].No, list[0].Gen, boxItem(1, 1, 1, "ann", "inbox"), addItem(2, 1, 1, 4, "a"), addItem(3, 1, 2, 0, "b"), addItem(4, 1, 3, 6, "c"), boxItem(5, 2, 5, "ann", "old"))
	s := storeOf(t, segs, list...)
	for _, i := range freed {
		s.Freed = append(s.Freed, list[i].No)
	}
	slices.Sort(s.Freed)
	isRightStore(t, "mails", s)
	return s
}

// sizedCalls are calls that mailStore can do, with the room they ask for.
func sizedCalls() []sizedCall {
	return []sizedCall{
		{callMake("ann", "new"), 29 + 10}, {callMake("bob", "inbox"), 31 + 10}, {callDrop("ann", "old"), 23 + 10},
		{callAdd("ann", "inbox", 7, "hi"), 25 + 10}, {callAdd("ann", "old", 7, bodyOf(100)), 123 + 10}, {callFlag("ann", "inbox", 2, 5), 23 + 10},
		{callExpunge("ann", "inbox", 3), 23 + 10}, {callExpunge("ann", "inbox", 1, 2, 3), 2 * (23 + 10)}, {callExpunge("ann", "inbox", 2, 7), 0}, {callCopy("ann", "inbox", 3, "old"), 24 + 10},
	}
}

type sizedCall struct {
	call impl.Call
	size int
}

// With just the reserve free room is made for what a call asks for, and one
// byte less is too little.
func TestDoCallAsksForRoom(t *testing.T) {
	for _, c := range sizedCalls() {
		for segs := impl.MinSegs; segs <= impl.MaxSegs; segs += 3 {
			for _, used := range []int{segs - 3, segs - 2, segs - 1, segs} {
				for _, left := range []int{0, 16, c.size - 10, c.size - 1, c.size, c.size + 1} {
					if left < 0 {
						continue
					}
					what := fmt.Sprintf("%d of %d in use, %d bytes left", used, segs, left)
					s := mailStore(t, segs, used, left)
					got := called(t, what, s, c.call)
					needs := left < c.size && segs-used <= impl.Reserve
					if made := got.Log.Stamp > 1 || len(got.Freed) > 0; made != needs {
						t.Errorf("%s: for %+v room is made: %v; %s", what, c.call, made, tellStore(got))
					}
				}
			}
		}
	}
	for segs := impl.MinSegs; segs <= impl.MaxSegs; segs++ {
		// What can't be done needs no room.
		calledWith(t, "no such mail", mailStore(t, segs, segs, 0), callFlag("ann", "inbox", 4, 0), impl.CodeNo)
		calledWith(t, "a wrong call", mailStore(t, segs, segs, 0), callFlag("ann", "inbox", 1, 8), impl.CodeNo)
	}
}

func TestDoCallWithFreed(t *testing.T) {
	for _, c := range sizedCalls() {
		for segs := 6; segs <= impl.MaxSegs; segs++ {
			for _, freed := range [][]int{{1}, {2}, {1, 2}} {
				// With room what is Freed stays so; without it is set free.
				s := mailStore(t, segs, segs-2, 150, freed...)
				got := called(t, "room, Freed", s, c.call)
				if !slices.Equal(got.Freed, s.Freed) || got.Log.Stamp != 1 {
					t.Errorf("room, Freed %v: %s", freed, tellStore(got))
				}
				s = mailStore(t, segs, segs-2, 0, freed...)
				got = called(t, "no room, Freed", s, c.call)
				if c.size > 0 && (len(got.Freed) > 0 || got.Log.Stamp != 2) || c.size == 0 && !alikeStores(got, s) {
					t.Errorf("no room, Freed %v: %s", freed, tellStore(got))
				}
				calledWith(t, "no room, Freed", s, callDrop("ann", "inbox"), impl.CodeNo)
			}
		}
	}
	s := dirtyStore(0, 7)
	s = called(t, "dirty", s, callAdd("ann", "inbox", 4, "new"), callExpunge("ann", "inbox", 1, 3), callMake("bob", "inbox"), callDrop("bob", "old"))
	tellsBoxes(t, "dirty", s, impl.Box{Valid: 1, User: "ann", Name: "inbox", Next: 4}, impl.Box{Valid: 8, User: "bob", Name: "inbox", Next: 1})
}

// A call that tells nothing is done, also where nothing else can be.
func TestDoCallThatTellsNothing(t *testing.T) {
	none := callExpunge("ann", "inbox", 2, 9)
	empty := callExpunge("ann", "inbox")
	for segs := impl.MinSegs; segs <= impl.MaxSegs; segs++ {
		for _, s := range []impl.Store{neededStore(t, segs, segs), neededStore(t, segs, segs-2), mailStore(t, segs, segs, 0), mailStore(t, segs, segs, 0, 1), mailStore(t, segs, 2, 100)} {
			for _, c := range []impl.Call{none, empty} {
				if got := called(t, "nothing to be told", s, c); !alikeStores(got, s) {
					t.Errorf("nothing to be told: %s", tellStore(got))
				}
			}
			calledWith(t, "no box", s, callExpunge("bob", "inbox"), impl.CodeNo)
		}
	}
}

// A call whose first record can't be: all is as MakeRoom has it.
func TestDoCallThatIsFullAtOnce(t *testing.T) {
	for segs := impl.MinSegs; segs <= impl.MaxSegs; segs++ {
		for _, c := range []impl.Call{callMake("bob", "inbox"), callMake("ann", "old"), callFlag("ann", "inbox", 1, 4), callFlag("ann", "inbox", 1, 0)} {
			s := neededStore(t, segs, segs)
			if got := calledWith(t, "all is full", s, c, impl.CodeFull); !alikeStores(got, s) {
				t.Errorf("all is full: %s", tellStore(got))
			}
		}
		s := neededStore(t, segs, segs-2)
		got := calledWith(t, "all is needed", s, callMake("bob", "inbox"), impl.CodeFull)
		if got.Log.Stamp != 1+2*segs || got.Log.NextSeq != s.Log.NextSeq {
			t.Errorf("all is needed: %s", tellStore(got))
		}
		for _, c := range sizedCalls() {
			if got := fullBehindMaking(t, "no Stamp", noStampStore(t, segs, 10), c.call, c.size); c.size == 0 && len(got.Freed) > 0 {
				t.Errorf("no Stamp, nothing to be told: %s", tellStore(got))
			}
		}
	}
}

// noStampStore is one in which a segment can be cleaned, but not be set free:
// no check can be written.
func noStampStore(t *testing.T, segs, left int) impl.Store {
	t.Helper()
	s := mailStore(t, segs, segs-2, left)
	s.Log.Stamp = impl.MaxNumber
	s.Log = checkedLog(s.Log)
	isRightStore(t, "no Stamp", s)
	return s
}

// fullBehindMaking asks for CodeFull of a store of noStampStore, which MakeRoom
// turns, but of nothing where no room is asked for.
func fullBehindMaking(t *testing.T, what string, s impl.Store, c impl.Call, size int) impl.Store {
	t.Helper()
	if size == 0 {
		return called(t, what, s, c)
	}
	got := calledWith(t, what, s, c, impl.CodeFull)
	if len(got.Freed) != 1 || got.Log.NextSeq != s.Log.NextSeq || len(got.Log.Used) != len(s.Log.Used) {
		t.Errorf("%s: %s", what, tellStore(got))
	}
	staysSo(t, what+", again", got, size)
	if again := calledWith(t, what+", again", got, c, impl.CodeFull); !alikeStores(again, got) {
		t.Errorf("%s, again: %s", what, tellStore(again))
	}
	return got
}

// goingStore has no segment free, nothing that can be cleaned into so many
// bytes that are left in its head, and three mails of bob that have FlagDeleted.
func goingStore(t *testing.T, segs, left int) impl.Store {
	t.Helper()
	used := []impl.Seg{segOf(segs-1, 2, boxItem(1, 1, 1, "ann", "inbox"), boxItem(2, 2, 1, "bob", "inbox"), addItem(3, 1, 1, 0, bodyOf(50)))}
	for i := 1; i < segs-1; i++ {
		used = append(used, segOf(segs-1-i, 2+i, addItem(3+i, 1, 1+i, 0, bodyOf(100))))
	}
	head := []impl.Item{addItem(50, 2, 1, 4, ""), addItem(51, 2, 2, 5, ""), addItem(52, 2, 3, 6, ""), addItem(53, 2, 4, 3, "")}
	for _, x := range mailsOf(impl.SegSize-left-segOf(0, 1+segs, head...).End, 1) {
		x.Seq, x.Rec.Valid = x.Seq+60, 90
		head = append(head, x)
	}
	s := storeOf(t, segs, append(used, segOf(0, 1+segs, head...))...)
	if got := s.Log.Used[segs-1].End; got != impl.SegSize-left {
		t.Fatalf("%d bytes are left, not %d", impl.SegSize-got, left)
	}
	staysSo(t, "mails that go", s, 99)
	return s
}

// A call of which a later record can't be: nothing of it is told, and all is as
// MakeRoom has it.
func TestDoCallThatIsFullLater(t *testing.T) {
	three := callExpunge("ann", "inbox", 1, 2, 3, 4)
	for segs := impl.MinSegs; segs <= impl.MaxSegs; segs++ {
		// Three records of 15 bytes.
		for _, left := range []int{0, 14, 15, 29, 30, 44, 45, 46, 60} {
			s, what := goingStore(t, segs, left), fmt.Sprint(left, " bytes left")
			if left >= 45 {
				called(t, what, s, callExpunge("bob", "inbox", 1, 2, 3, 4))
				continue
			}
			if got := calledWith(t, what, s, callExpunge("bob", "inbox", 1, 2, 3, 4), impl.CodeFull); !alikeStores(got, s) {
				t.Errorf("%s: %s", what, tellStore(got))
			}
		}
		got := fullBehindMaking(t, "no Stamp", noStampStore(t, segs, 20), three, 66)
		called(t, "no Stamp, one alone", got, callExpunge("ann", "inbox", 1, 2))
		// As many are free as it needs, but there is no Gen for a new head.
		s := mailStore(t, segs, 2, 20)
		s.Log.NextGen = impl.MaxNumber
		s.Log = checkedLog(s.Log)
		if got := calledWith(t, "no Gen", s, three, impl.CodeFull); !alikeStores(got, s) {
			t.Errorf("no Gen: %s", tellStore(got))
		}
		called(t, "no Gen, one alone", s, callExpunge("ann", "inbox", 1, 2))
		// One Seq for two records.
		for seqs := range 4 {
			s = mailStore(t, segs, 2, 100)
			s.Log.NextSeq = impl.MaxNumber - seqs
			s.Log = checkedLog(s.Log)
			if seqs < 2 {
				if got := calledWith(t, "no Seq", s, three, impl.CodeFull); !alikeStores(got, s) {
					t.Errorf("%d Seqs: %s", seqs, tellStore(got))
				}
				continue
			}
			called(t, "a Seq for each", s, three)
		}
	}
}

// Records of one call that lie in two segments.
func TestDoCallAcrossSegments(t *testing.T) {
	for left := range 80 {
		if left < 15 && left > 0 {
			continue
		}
		s := mailStore(t, 7, 3, left)
		got := called(t, "across segments", s, callExpunge("ann", "inbox", 1, 3))
		if opened := len(got.Log.Used) - 3; opened > 1 || (opened == 1) != (left < 30) {
			t.Errorf("%d bytes left: %s", left, tellStore(got))
		}
		if b := impl.StateNow(got).Boxes[0]; b.Next != 4 || len(b.Mails) != 1 || b.Mails[0].Uid != 2 {
			t.Errorf("%d bytes left: %+v", left, b)
		}
	}
	box := []impl.Item{boxItem(1, 1, 1, "ann", "inbox")}
	for uid := 1; uid <= 8; uid++ {
		box = append(box, addItem(1+uid, 1, uid, 4, ""))
	}
	for used := 1; used <= 3; used++ {
		list := []impl.Seg{segOf(4, 2, box...), segOf(3, 3), segOf(2, 4)}[:used]
		s := storeOf(t, 5, list...)
		got := called(t, "as many as may be", s, callExpunge("ann", "inbox", 1, 2, 3, 4, 5, 6, 7, 8))
		tellsBoxes(t, "as many as may be", got, impl.Box{Valid: 1, User: "ann", Name: "inbox", Next: 9})
	}
}

// The last numbers: of a Valid, of a Uid.
func TestDoCallOfTheGreatestNumbers(t *testing.T) {
	s := newStore(t, 6)
	s.Log.NextValid = impl.MaxValid - 1
	s = called(t, "the last Valids", s, callMake("ann", "inbox"), callMake("ann", "old"))
	if s.Log.NextValid != impl.MaxValid+1 {
		t.Errorf("behind the last Valid: %s", tellStore(s))
	}
	calledWith(t, "no Valid", s, callMake("ann", "bin"), impl.CodeNo)
	calledWith(t, "no Valid", s, callMake("bob", "inbox"), impl.CodeNo)
	starts(t, "no Valid", s, "bob", impl.CodeNo)
	starts(t, "no Valid, but a box", s, "ann", 0)
	s = called(t, "no Valid, but a mail", s, callAdd("ann", "inbox", 0, "a"), callCopy("ann", "inbox", 1, "old"), callDrop("ann", "old"))
	calledWith(t, "no Valid still", s, callMake("ann", "old"), impl.CodeNo)
	s = impl.Store{Log: checkedLog(logWith(6, segOf(1, 2, boxItem(1, 1, impl.MaxValid, "ann", "inbox"), boxItem(2, 2, impl.MaxValid+1, "ann", "old"))))}
	calledWith(t, "no Uid", s, callAdd("ann", "old", 0, "a"), impl.CodeNo)
	s = called(t, "the last Uid", s, callAdd("ann", "inbox", 0, "a"))
	calledWith(t, "no Uid", s, callAdd("ann", "inbox", 0, "a"), impl.CodeNo)
	calledWith(t, "no Uid", s, callCopy("ann", "inbox", impl.MaxValid, "old"), impl.CodeNo)
	calledWith(t, "no Uid", s, callCopy("ann", "inbox", impl.MaxValid, "inbox"), impl.CodeNo)
	called(t, "the last Uid goes", s, callFlag("ann", "inbox", impl.MaxValid, 4), callExpunge("ann", "inbox", impl.MaxValid))
}

func TestStartUser(t *testing.T) {
	for segs := impl.MinSegs; segs <= impl.MaxSegs; segs++ {
		s := newStore(t, segs)
		ann := impl.Box{Valid: 1, User: "ann", Name: "inbox", Next: 1}
		first := starts(t, "without boxes", s, "ann", 0)
		tellsBoxes(t, "without boxes", first, ann)
		risesAs(t, "without boxes", first)
		if again := starts(t, "an inbox", first, "ann", 0); !alikeStores(again, first) {
			t.Errorf("an inbox: %s", tellStore(again))
		}
		both := starts(t, "another user", first, "bob", 0)
		tellsBoxes(t, "another user", both, ann, impl.Box{Valid: 2, User: "bob", Name: "inbox", Next: 1})
		others := called(t, "other boxes", s, callMake("ann", "old"), callMake("ann", "bin"))
		others = starts(t, "other boxes alone", others, "ann", 0)
		tellsBoxes(t, "other boxes alone", others, impl.Box{Valid: 1, User: "ann", Name: "old", Next: 1}, impl.Box{Valid: 2, User: "ann", Name: "bin", Next: 1}, impl.Box{Valid: 3, User: "ann", Name: "inbox", Next: 1})
		starts(t, "as many as may be", others, "ann", 0)
		full := called(t, "others", s, callMake("ann", "old"), callMake("ann", "bin"), callMake("ann", "new"))
		if got := starts(t, "as many others as may be", full, "ann", impl.CodeNo); !alikeStores(got, full) {
			t.Errorf("as many others as may be: %s", tellStore(got))
		}
		for _, word := range wrongWords {
			starts(t, "no word", s, word, impl.CodeNo)
			starts(t, "no word", both, word, impl.CodeNo)
		}
		for _, word := range rightWords {
			starts(t, "a word", first, word, 0)
		}
		all := neededStore(t, segs, segs)
		starts(t, "all is full", all, "bob", impl.CodeFull)
		starts(t, "all is full, an inbox", all, "ann", 0)
		starts(t, "all is full, no word", all, "", impl.CodeNo)
		if got := starts(t, "all is needed", neededStore(t, segs, segs-2), "bob", impl.CodeFull); got.Log.Stamp != 1+2*segs {
			t.Errorf("all is needed: %s", tellStore(got))
		}
		s = filledStore(t, segs, segs-2, 0)
		if got := starts(t, "room is made", s, "bob", 0); got.Log.Stamp != 2 || len(impl.StateNow(got).Boxes) != 2 {
			t.Errorf("room is made: %s", tellStore(got))
		}
		// Where they have an inbox no room is made.
		if got := starts(t, "no room is made", s, "ann", 0); !alikeStores(got, s) {
			t.Errorf("no room is made: %s", tellStore(got))
		}
	}
}

// callsToTry are calls of each Kind, of which some can be done in dirtyStore
// and severalLog.
func callsToTry() []impl.Call {
	return []impl.Call{
		callMake("ann", "new"), callMake("ann", "inbox"), callMake("eve", "inbox"), callDrop("bob", "old"), callDrop("ann", "old"), callDrop("ann", "inbox"),
		callAdd("ann", "inbox", 1, "a"), callAdd("bob", "old", 7, bodyOf(100)), callFlag("bob", "old", 1, 4), callFlag("ann", "inbox", 1, 0), callExpunge("bob", "old", 1), callExpunge("ann", "inbox", 1, 2, 3), callExpunge("ann", "inbox"),
		callCopy("bob", "old", 1, "old"), callCopy("ann", "inbox", 1, "inbox"), {}, {Kind: 7, User: "ann", Box: "inbox"}, {Kind: impl.CallMake, User: "ann", Box: "new", Uid: 1},
	}
}

// Of a store that is not right: what its items tell says what can't be done,
// and its log what is full.
func TestDoCallOfWrongStores(t *testing.T) {
	codes := map[int]int{}
	for what, s := range wrongStores() {
		for _, c := range callsToTry() {
			_, code := calls(t, what, s, c)
			codes[code]++
		}
		for _, user := range []string{"ann", "bob", "eve", "", "Ann"} {
			_, code := startAsSaid(s, user)
			starts(t, what, s, user, code)
		}
	}
	if codes[0] < 50 || codes[impl.CodeNo] < 500 || codes[impl.CodeFull] < 200 {
		t.Errorf("codes: %v", codes)
	}
	// Some, spelt out.
	wrong := impl.Store{Log: turned(func(g *impl.Log) { g.Stamp = 0 })}
	calledWith(t, "no Stamp", wrong, callFlag("bob", "old", 1, 2), impl.CodeFull)
	calledWith(t, "no Stamp", wrong, callFlag("bob", "old", 2, 2), impl.CodeNo)
	calledWith(t, "no Stamp", wrong, callExpunge("bob", "old", 1), impl.CodeFull)
	if got := called(t, "no Stamp, nothing to be told", wrong, callExpunge("bob", "old", 2)); !alikeStores(got, wrong) {
		t.Errorf("no Stamp, nothing to be told: %s", tellStore(got))
	}
	starts(t, "no Stamp", wrong, "ann", 0)
	starts(t, "no Stamp", wrong, "bob", impl.CodeFull)
	calledWith(t, "nothing", impl.Store{}, callMake("ann", "inbox"), impl.CodeNo)
	starts(t, "nothing", impl.Store{}, "ann", impl.CodeNo)
	alone := impl.Store{Log: impl.Log{NextValid: 1}}
	calledWith(t, "a NextValid alone", alone, callMake("ann", "inbox"), impl.CodeFull)
	starts(t, "a NextValid alone", alone, "ann", impl.CodeFull)
	// Freed that are not right: the log is, so that all can be done.
	for _, freed := range [][]int{{4}, {2}, {7, 0}, {0, 0}, {-1}, {99}, {0, 1, 2, 4, 5, 7}} {
		s := dirtyStore(freed...)
		got := called(t, "wrong Freed", s, callAdd("ann", "inbox", 4, "a"), callExpunge("ann", "inbox", 1, 3))
		if !slices.Equal(got.Freed, freed) {
			t.Errorf("Freed %v: %s", freed, tellStore(got))
		}
	}
	// Of two boxes of one name the first one is meant.
	one, other := boxItem(8, 3, 1, "ann", "old"), boxItem(9, 4, 1, "ann", "old")
	s := impl.Store{Log: logWith(5, segOf(0, 2, one, other), segOf(3, 5))}
	got := called(t, "two boxes of one name", s, callAdd("ann", "old", 0, "a"), callDrop("ann", "old"))
	tellsBoxes(t, "two boxes of one name", got, impl.Box{Valid: 4, User: "ann", Name: "old", Next: 1})
}

// Segs that are far off: nothing is gone through that often.
func TestDoCallOfManySegs(t *testing.T) {
	for _, segs := range []int{math.MinInt, -1 << 32, -1, 0, 4, 1 << 32, 1 << 61, 1 << 62, math.MaxInt} {
		s := filledStore(t, 6, 4, 10)
		s.Log.Segs = segs
		for c, want := range map[string]int{"inbox": impl.CodeFull, "old": impl.CodeNo} {
			if got, code := impl.DoCall(s, callAdd("ann", c, 0, "a")); code != want || !alikeStores(got, s) {
				t.Errorf("%d segments: %d, %s", segs, code, tellStore(got))
			}
		}
		if got, code := impl.StartUser(s, "ann"); code != 0 || !alikeStores(got, s) {
			t.Errorf("%d segments: %d, %s", segs, code, tellStore(got))
		}
		if got, code := impl.StartUser(s, "bob"); code != impl.CodeFull || !alikeStores(got, s) {
			t.Errorf("%d segments: %d, %s", segs, code, tellStore(got))
		}
	}
}

// Where what lay behind the head has the sum of another one, that one is read,
// too: the first record is told, and the log is not right, so that no later one
// can be.
func TestDoCallAheadOfWhatIsAnotherOnes(t *testing.T) {
	s := mailStore(t, 6, 2, 120)
	head := s.Log.Used[1]
	for what, c := range map[string]struct {
		at   int
		list []int
		want int
	}{
		"one, and it lies behind it": {15, []int{1}, 0}, "two, and it lies behind the first": {15, []int{1, 3}, impl.CodeFull}, "two, and it lies behind the second": {30, []int{1, 3}, 0}, "two, and it lies farther off": {45, []int{1, 3}, 0},
	} {
		lies := copyOfStore(s)
		lies.Log.Disk = putAsSaid(s.Log.Disk, head.No, head.End+c.at, itemAsSaid(dropItem(127, 50), head.Gen))
		isRightStore(t, what, lies)
		want, code := callAsSaid(lies, callExpunge("ann", "inbox", c.list...))
		got, is := impl.DoCall(lies, callExpunge("ann", "inbox", c.list...))
		if is != c.want || is != code || !alikeStores(got, want) || is != 0 && !alikeStores(got, lies) {
			t.Errorf("%s: %d, %s", what, is, tellStore(got))
		}
	}
}

// Promise 15, in drawn lives.
func TestACallDoesWhatItDoesWithoutALog(t *testing.T) {
	seen := map[string]int{}
	for seed := range 10 {
		d := drawing(1500 + seed)
		s := newStore(t, impl.MinSegs+seed%7)
		model, nextvalid := impl.State{}, 1
		for range 110 {
			what := fmt.Sprint("seed ", seed)
			switch d.below(16) {
			case 0:
				s, _ = cleans(t, what, s, d.below(len(s.Log.Used)))
			case 1:
				s, _ = rises(t, what, s.Log.Disk)
			case 2:
				s, _ = fixesStore(t, what, s)
			default:
				c := drawnCall(&d, model)
				next, code := calls(t, what, s, c)
				if code != impl.CodeFull {
					told, n, is := impl.ModelCall(model, nextvalid, c)
					if model, nextvalid = told, n; is != code {
						t.Errorf("%s: %+v has the code %d, not %d", what, c, code, is)
					}
				}
				seen[fmt.Sprintf("Kind %d, code %d", c.Kind, code)]++
				s = next
			}
			if !sameTold(impl.StateNow(s), model) || s.Log.NextValid != nextvalid {
				t.Errorf("%s: %+v is told, not %+v", what, impl.StateNow(s), model)
			}
			if t.Failed() {
				t.FailNow()
			}
		}
	}
	for kind := 1; kind <= 6; kind++ {
		if done := fmt.Sprintf("Kind %d, code 0", kind); seen[done] < 10 {
			t.Errorf("%s: %d times, of %v", done, seen[done], seen)
		}
	}
	if full := seen["Kind 3, code 2"]; full < 5 {
		t.Errorf("just %d mails are too many: %v", full, seen)
	}
}

// roomyCall is c with texts and Uids that have room behind them.
func roomyCall(c impl.Call) (impl.Call, [4][]byte) {
	var buffers [4][]byte
	c.User, buffers[0] = roomy(c.User)
	c.Box, buffers[1] = roomy(c.Box)
	c.To, buffers[2] = roomy(c.To)
	c.Text, buffers[3] = roomy(c.Text)
	c.Uids = append(append(make([]int, 0, len(c.Uids)+3), c.Uids...), 55, 56, 57)[:len(c.Uids)]
	return c, buffers
}

// callStays asks that nothing of c was written on, nor of the room behind it.
func callStays(t *testing.T, what string, c, plain impl.Call, buffers [4][]byte) {
	t.Helper()
	for i, text := range []string{plain.User, plain.Box, plain.To, plain.Text} {
		if string(buffers[i]) != text+"room behind it" {
			t.Errorf("%s: a text of the call is written on", what)
		}
	}
	if !slices.Equal(c.Uids[:cap(c.Uids)], append(slices.Clone(plain.Uids), 55, 56, 57)) {
		t.Errorf("%s: the Uids of the call are written on", what)
	}
}

func TestNoStateIsWrittenOnByACall(t *testing.T) {
	for what, plain := range map[string]impl.State{"boxes": callState(), "many": manyState(), "nothing": {}, "wrong": stateWith(boxWith(9, 2, "ann", "inbox"), boxWith(9, 1, "ann", "old"), impl.Box{})} {
		for _, y := range append(plainCalls(), callAdd("ann", "inbox", 0, bodyOf(100)), callCopy("ann", "inbox", 1, "inbox"), callExpunge("ann", "inbox", 1, 2), callMake("dan", "inbox"), wrongCalls()[0], impl.Call{Kind: 9, User: "U", Box: "B", To: "T", Text: "X", Uids: []int{3, 1}}) {
			for _, nextvalid := range []int{1, 7} {
				s := roomyState(plain)
				c, buffers := roomyCall(y)
				before := fullState(s)
				impl.CallOk(c)
				first, _ := impl.RecsFor(s, nextvalid, c)
				second, _ := impl.RecsFor(s, nextvalid, c)
				told, _, _ := impl.ModelCall(s, nextvalid, c)
				again, _, _ := impl.ModelCall(s, nextvalid, c)
				texts := slices.Concat(textsOfState(s), textsOfRecs(first), textsOfRecs(second), textsOfState(told), textsOfState(again), []string{c.User, c.Box, c.To, c.Text})
				noneOfManyShared(t, what, texts)
				want, _ := recsAsSaid(plain, nextvalid, y)
				state, _, _ := modelAsSaid(plain, nextvalid, y)
				scribbleOver(first, impl.Rec{Kind: 66})
				scribbleState(told)
				if !slices.Equal(second, want) || !sameTold(again, state) {
					t.Errorf("%s: two answers share memory", what)
				}
				if !sameTold(fullState(s), before) || !sameTold(s, plain) {
					t.Errorf("%s: the state handed in is written on", what)
				}
				callStays(t, what, c, y, buffers)
			}
		}
	}
}

// Lists of mails in one answer are each its own.
func TestNoTwoListsOfAModelAreShared(t *testing.T) {
	for _, c := range append(plainCalls(), callExpunge("ann", "old", 8), callCopy("ann", "inbox", 1, "inbox"), callDrop("ann", "inbox")) {
		told, _, _ := impl.ModelCall(roomyState(callState()), 7, c)
		for i, b := range told.Boxes {
			scribbleOver(b.Mails, impl.Mail{Uid: 1000 + i})
		}
		for i, b := range told.Boxes {
			for _, m := range b.Mails[:cap(b.Mails)] {
				if m.Uid != 1000+i {
					t.Errorf("behind %+v two lists share memory", c)
				}
			}
		}
	}
}

func TestNoStoreIsWrittenOnByACall(t *testing.T) {
	for what, plain := range map[string]impl.Store{
		"new": newStore(t, 5), "dirty": dirtyStore(), "two Freed": dirtyStore(0, 7), "wrong Freed": dirtyStore(7, 0, 1), "room in the head": mailStore(t, 6, 4, 100), "room is made": mailStore(t, 6, 4, 0), "a check": mailStore(t, 6, 4, 0, 1),
		"full": neededStore(t, 5, 5), "all is needed": neededStore(t, 5, 3), "nothing": {}, "Freed alone": {Freed: []int{1, 2}},
		"wrong numbers": {Log: turned(func(g *impl.Log) { g.NextSeq = 0 }), Freed: []int{0}}, "wrong Items": {Log: turned(func(g *impl.Log) { g.Used[1].Items = plainItems() })},
	} {
		for _, y := range []impl.Call{callMake("eve", "inbox"), callAdd("ann", "inbox", 1, "some text"), callFlag("ann", "inbox", 1, 2), callExpunge("ann", "inbox", 1, 2, 3), callExpunge("ann", "inbox"), callCopy("ann", "inbox", 1, "inbox"), callDrop("bob", "old"), {User: "U", Box: "B", To: "T", Text: "X"}} {
			s := roomyStore(plain)
			c, buffers := roomyCall(y)
			before := fullStore(s)
			for _, answer := range []func() impl.Store{
				func() impl.Store { got, _ := impl.DoCall(s, c); return got },
				func() impl.Store { got, _ := impl.StartUser(s, c.User); return got },
			} {
				first, second, third := answer(), answer(), answer()
				noneOfManyShared(t, what, slices.Concat(textsOfLog(s.Log), textsOfLog(first.Log), textsOfLog(second.Log), []string{c.User, c.Box, c.To, c.Text}))
				listsOfTheirOwn(t, what, third.Log)
				if !alikeStores(first, second) {
					t.Errorf("%s: another one the next time", what)
				}
				kept := fullStore(second)
				scribbleStore(first)
				if !alikeStores(fullStore(second), kept) {
					t.Errorf("%s: two answers share memory", what)
				}
			}
			if !alikeStores(fullStore(s), before) || !alikeStores(s, plain) {
				t.Errorf("%s: the store handed in is written on", what)
			}
			callStays(t, what, c, y, buffers)
		}
	}
}

// Of one store calls may be asked by many at once: each is answered as if
// alone.
func TestCallsAreAskedByManyAtOnce(t *testing.T) {
	s, c := mailStore(t, 6, 4, 0), callExpunge("ann", "inbox", 1, 2, 3)
	want, code := callAsSaid(s, c)
	started, _ := startAsSaid(s, "bob")
	state, now := callState(), callExpunge("ann", "inbox", 1, 3)
	recs, _ := recsAsSaid(state, 7, now)
	told, _, _ := modelAsSaid(state, 7, now)
	wrong := make([]bool, 24)
	var all sync.WaitGroup
	for i := range wrong {
		all.Go(func() {
			got, is := impl.DoCall(s, c)
			up, _ := impl.StartUser(s, "bob")
			list, _ := impl.RecsFor(state, 7, now)
			model, _, _ := impl.ModelCall(state, 7, now)
			wrong[i] = is != code || !alikeStores(got, want) || !alikeStores(up, started) || !slices.Equal(list, recs) || !sameTold(model, told) || !impl.CallOk(c)
		})
	}
	all.Wait()
	if slices.Contains(wrong, true) {
		t.Errorf("one of many is told something else: %v", wrong)
	}
}
