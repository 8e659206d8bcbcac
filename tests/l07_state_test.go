package tests

import (
	"fmt"
	"iter"
	"math"
	"slices"
	"strings"
	"testing"

	"loop.example/g00287/impl"
)

func boxItem(seq, valid, next int, user, name string) impl.Item {
	return impl.Item{Seq: seq, Rec: impl.Rec{Kind: impl.RecBox, Valid: valid, Next: next, User: user, Name: name}}
}

func dropItem(seq, valid int) impl.Item {
	return impl.Item{Seq: seq, Rec: impl.Rec{Kind: impl.RecDrop, Valid: valid}}
}

func addItem(seq, valid, uid, flags int, text string) impl.Item {
	return impl.Item{Seq: seq, Rec: impl.Rec{Kind: impl.RecAdd, Valid: valid, Uid: uid, Flags: flags, Text: text}}
}

func flagItem(seq, valid, uid, flags int) impl.Item {
	return impl.Item{Seq: seq, Rec: impl.Rec{Kind: impl.RecFlag, Valid: valid, Uid: uid, Flags: flags}}
}

func goneItem(seq, valid, uid int) impl.Item {
	return impl.Item{Seq: seq, Rec: impl.Rec{Kind: impl.RecGone, Valid: valid, Uid: uid}}
}

func stateWith(boxes ...impl.Box) impl.State {
	return impl.State{Boxes: boxes}
}

// sameTold holds two states against each other without the program's help.
func sameTold(a, b impl.State) bool {
	return slices.EqualFunc(a.Boxes, b.Boxes, func(x, y impl.Box) bool {
		return x.Valid == y.Valid && x.User == y.User && x.Name == y.Name && x.Next == y.Next && slices.Equal(x.Mails, y.Mails)
	})
}

// itemsRightAsSaid is the document's own words.
func itemsRightAsSaid(list []impl.Item) bool {
	for i, x := range list {
		if x.Seq < 1 || x.Seq > 1000000000 || !recRightAsSaid(x.Rec) {
			return false
		}
		for _, y := range list[:i] {
			if x.Seq == y.Seq && x != y {
				return false
			}
		}
	}
	return len(list) <= 200
}

// those has the items of this Kind and Valid, and of this Uid unless that is 0.
func those(list []impl.Item, kind, valid, uid int) []impl.Item {
	out := []impl.Item{}
	for _, x := range list {
		if x.Rec.Kind == kind && x.Rec.Valid == valid && (uid == 0 || x.Rec.Uid == uid) {
			out = append(out, x)
		}
	}
	return out
}

func greatest(list []impl.Item, number func(impl.Item) int) int {
	n := 0
	for _, x := range list {
		n = max(n, number(x))
	}
	return n
}

// latest is the one with the greatest Seq.
func latest(list []impl.Item) impl.Item {
	return slices.MaxFunc(list, func(a, b impl.Item) int { return a.Seq - b.Seq })
}

func numbersInOrder(list []impl.Item, number func(impl.Item) int) []int {
	out := []int{}
	for _, x := range list {
		out = append(out, number(x))
	}
	slices.Sort(out)
	return slices.Compact(out)
}

func nextOfItem(x impl.Item) int  { return x.Rec.Next }
func uidOfItem(x impl.Item) int   { return x.Rec.Uid }
func validOfItem(x impl.Item) int { return x.Rec.Valid }

// stateAsSaid is the document's own words.
func stateAsSaid(list []impl.Item) impl.State {
	s := impl.State{}
	if !itemsRightAsSaid(list) {
		return s
	}
	for _, valid := range numbersInOrder(list, validOfItem) {
		boxes := those(list, impl.RecBox, valid, 0)
		if len(boxes) == 0 || len(those(list, impl.RecDrop, valid, 0)) > 0 {
			continue
		}
		next := greatest(boxes, nextOfItem)
		of := slices.DeleteFunc(slices.Clone(boxes), func(x impl.Item) bool { return x.Rec.Next != next })
		named := latest(of).Rec
		adds, gone := those(list, impl.RecAdd, valid, 0), those(list, impl.RecGone, valid, 0)
		b := impl.Box{Valid: valid, User: named.User, Name: named.Name,
			Next: max(next, greatest(adds, uidOfItem)+1, greatest(gone, uidOfItem)+1)}
		for _, uid := range numbersInOrder(adds, uidOfItem) {
			if len(those(gone, impl.RecGone, valid, uid)) > 0 {
				continue
			}
			add := latest(those(adds, impl.RecAdd, valid, uid)).Rec
			m := impl.Mail{Uid: uid, Flags: add.Flags, Text: add.Text}
			if turned := those(list, impl.RecFlag, valid, uid); len(turned) > 0 {
				m.Flags = latest(turned).Rec.Flags
			}
			b.Mails = append(b.Mails, m)
		}
		s.Boxes = append(s.Boxes, b)
	}
	return s
}

// drawing hands out numbers that look drawn, and are the same each time.
type drawing uint64

func (d *drawing) below(n int) int {
	*d = *d*6364136223846793005 + 1442695040888963407
	return int(*d>>33) % n
}

func (d *drawing) of(list ...int) int {
	return list[d.below(len(list))]
}

func (d *drawing) shuffled(list []impl.Item) []impl.Item {
	out := slices.Clone(list)
	for i := range out {
		j := d.below(i + 1)
		out[i], out[j] = out[j], out[i]
	}
	return out
}

// rec draws a right record out of so few that many of them meet.
func (d *drawing) rec() impl.Rec {
	valid, uid, flags := d.of(1, 2, 3, 4, 130, impl.MaxValid), d.of(1, 2, 3, 4, 5, impl.MaxValid), d.below(8)
	switch d.of(1, 1, 1, 2, 3, 3, 3, 3, 4, 4, 4, 5, 5) {
	case impl.RecBox:
		next := d.of(1, 1, 2, 3, 4, 7, impl.MaxValid, impl.MaxValid+1)
		return boxItem(0, valid, next, []string{"ann", "bob"}[d.below(2)], []string{"inbox", "old", "z"}[d.below(3)]).Rec
	case impl.RecDrop:
		return dropItem(0, valid).Rec
	case impl.RecAdd:
		return addItem(0, valid, uid, flags, []string{"", "a", "b\n", "\x00\xff"}[d.below(4)]).Rec
	case impl.RecFlag:
		return flagItem(0, valid, uid, flags).Rec
	}
	return goneItem(0, valid, uid).Rec
}

// items draws n items of unlike Seqs, in no order.
func (d *drawing) items(n int) []impl.Item {
	list, first := []impl.Item{}, d.of(1, 50, impl.MaxNumber-n+1)
	for i := range n {
		list = append(list, impl.Item{Seq: first + i, Rec: d.rec()})
	}
	return d.shuffled(list)
}

// ordersOf is every order of the list, each a list of its own.
func ordersOf(list []impl.Item) iter.Seq[[]impl.Item] {
	return func(yield func([]impl.Item) bool) {
		var from func(head, rest []impl.Item) bool
		from = func(head, rest []impl.Item) bool {
			if len(rest) == 0 {
				return yield(slices.Clone(head))
			}
			for i := range rest {
				others := slices.Concat(rest[:i], rest[i+1:])
				if !from(append(slices.Clone(head), rest[i]), others) {
					return false
				}
			}
			return true
		}
		from(nil, list)
	}
}

// tells asks that this is told of the list, in every order of it (of some of
// them, when it is long), and with items that lie twice.
func tells(t *testing.T, what string, list []impl.Item, want impl.State) {
	t.Helper()
	if !impl.ItemsOk(list) || !itemsRightAsSaid(list) {
		t.Errorf("%s: not ItemsOk", what)
		return
	}
	ask := func(how string, list []impl.Item) {
		if got := impl.StateOf(list); !sameTold(got, want) {
			t.Errorf("%s, %s: of %+v is told %+v, not %+v", what, how, list, got, want)
		}
	}
	ask("as it is", list)
	if len(list) <= 6 {
		for other := range ordersOf(list) {
			ask("in another order", other)
		}
	}
	d := drawing(len(list))
	for range 10 {
		ask("in another order", d.shuffled(list))
	}
	for i, x := range list[:min(len(list), 200-len(list))] {
		ask("one twice, at the end", append(slices.Clone(list), x))
		ask("one twice, at the beginning", append([]impl.Item{x}, list...))
		ask("one twice, next to each other", slices.Insert(slices.Clone(list), i, x))
	}
	if 3*len(list) <= 200 {
		ask("all twice", slices.Concat(list, list))
		ask("all three times, in another order", d.shuffled(slices.Concat(list, list, list)))
	}
}

func tellsNothing(t *testing.T, what string, list []impl.Item) {
	t.Helper()
	if impl.ItemsOk(list) || itemsRightAsSaid(list) {
		t.Errorf("%s: ItemsOk of %d items", what, len(list))
	}
	if got := impl.StateOf(list); len(got.Boxes) > 0 {
		t.Errorf("%s: of %d items is told %+v", what, len(list), got)
	}
}

// A mail is added, one is gone, one is flagged, as a log would have them.
func plainItems() []impl.Item {
	return []impl.Item{
		boxItem(1, 1, 1, "ann", "inbox"), addItem(2, 1, 1, 0, "a"), addItem(3, 1, 2, 4, "b"),
		addItem(4, 1, 3, 1, "c"), goneItem(5, 1, 2), flagItem(6, 1, 1, 3),
	}
}

func plainState() impl.State {
	return stateWith(impl.Box{Valid: 1, User: "ann", Name: "inbox", Next: 4, Mails: []impl.Mail{{Uid: 1, Flags: 3, Text: "a"}, {Uid: 3, Flags: 1, Text: "c"}}})
}

// manyItems are several boxes of several users, one of them dropped.
func manyItems() []impl.Item {
	return []impl.Item{
		boxItem(10, 1, 1, "bob", "inbox"), boxItem(11, 2, 1, "ann", "inbox"), boxItem(12, 3, 1, "ann", "old"),
		addItem(13, 3, 1, 0, "to old"), boxItem(14, 4, 1, "ann", "bin"), addItem(15, 1, 1, 2, "to bob"),
		addItem(16, 2, 1, 7, "to ann"), addItem(17, 4, 1, 0, "to bin"), dropItem(18, 4), addItem(19, 2, 2, 0, "more"),
		flagItem(20, 2, 2, 1), flagItem(21, 2, 2, 5), goneItem(22, 3, 1), boxItem(23, 5, 1, "ann", "bin"),
	}
}

func manyState() impl.State {
	return stateWith(
		impl.Box{Valid: 1, User: "bob", Name: "inbox", Next: 2, Mails: []impl.Mail{{Uid: 1, Flags: 2, Text: "to bob"}}},
		impl.Box{Valid: 2, User: "ann", Name: "inbox", Next: 3, Mails: []impl.Mail{{Uid: 1, Flags: 7, Text: "to ann"}, {Uid: 2, Flags: 5, Text: "more"}}},
		impl.Box{Valid: 3, User: "ann", Name: "old", Next: 2},
		impl.Box{Valid: 5, User: "ann", Name: "bin", Next: 1})
}

func TestStateOfPlainLists(t *testing.T) {
	tells(t, "one box", plainItems(), plainState())
	tells(t, "several boxes", manyItems(), manyState())
	tells(t, "no items", []impl.Item{}, impl.State{})
	tells(t, "nil", nil, impl.State{})
	tells(t, "a box alone", []impl.Item{boxItem(7, 3, 1, "ann", "old")}, stateWith(impl.Box{Valid: 3, User: "ann", Name: "old", Next: 1}))
}

func TestStateOfBoxes(t *testing.T) {
	box := func(next int, user, name string) impl.State {
		return stateWith(impl.Box{Valid: 1, User: user, Name: name, Next: next})
	}
	for _, c := range []struct {
		what string
		list []impl.Item
		want impl.State
	}{
		{"a drop of a lesser Seq", []impl.Item{dropItem(1, 1), boxItem(2, 1, 1, "ann", "inbox")}, impl.State{}},
		{"a drop of a greater Seq", []impl.Item{boxItem(1, 1, 1, "ann", "inbox"), dropItem(2, 1)}, impl.State{}},
		{"two drops", []impl.Item{boxItem(1, 1, 1, "ann", "inbox"), dropItem(2, 1), dropItem(3, 1)}, impl.State{}},
		{"a drop among several of one Valid", []impl.Item{boxItem(1, 1, 1, "ann", "inbox"), dropItem(2, 1), boxItem(3, 1, 9, "ann", "inbox")}, impl.State{}},
		{"a drop of mails, too", []impl.Item{dropItem(3, 1), boxItem(1, 1, 1, "ann", "inbox"), addItem(2, 1, 1, 0, "a"), goneItem(4, 1, 1)}, impl.State{}},
		{"a drop without a box", []impl.Item{dropItem(3, 1)}, impl.State{}},
		{"a drop of another box", []impl.Item{dropItem(1, 2), boxItem(2, 1, 1, "ann", "inbox")}, box(1, "ann", "inbox")},
		{"the same Next, other Seqs", []impl.Item{boxItem(5, 1, 3, "ann", "a"), boxItem(9, 1, 3, "bob", "b"), boxItem(7, 1, 3, "cid", "c")}, box(3, "bob", "b")},
		{"the greatest Next has the least Seq", []impl.Item{boxItem(5, 1, 8, "ann", "a"), boxItem(9, 1, 3, "bob", "b"), boxItem(7, 1, 7, "cid", "c")}, box(8, "ann", "a")},
		{"two of the greatest Next", []impl.Item{boxItem(5, 1, 8, "ann", "a"), boxItem(6, 1, 8, "bob", "b"), boxItem(7, 1, 7, "cid", "c")}, box(8, "bob", "b")},
		{"two that are alike but for Seq", []impl.Item{boxItem(5, 1, 8, "ann", "a"), boxItem(6, 1, 8, "ann", "a")}, box(8, "ann", "a")},
		{"Seqs at their limits", []impl.Item{boxItem(impl.MaxNumber, 1, 8, "ann", "a"), boxItem(1, 1, 8, "bob", "b")}, box(8, "ann", "a")},
		{"a mail's Next is above that of all, which names none", []impl.Item{boxItem(5, 1, 2, "ann", "a"), addItem(6, 1, 9, 0, "x"), goneItem(7, 1, 9), boxItem(8, 1, 3, "bob", "b")}, box(10, "bob", "b")},
		{"Next of MaxValid and 1", []impl.Item{boxItem(5, 1, impl.MaxValid+1, "ann", "a")}, box(impl.MaxValid+1, "ann", "a")},
		{"Valids at their limits", []impl.Item{boxItem(5, impl.MaxValid, 1, "zzzzzzzz", "zzzzzzzz"), boxItem(6, 1, 1, "a", "a")}, stateWith(
			impl.Box{Valid: 1, User: "a", Name: "a", Next: 1}, impl.Box{Valid: impl.MaxValid, User: "zzzzzzzz", Name: "zzzzzzzz", Next: 1})},
		{"two boxes of one User and Name", []impl.Item{boxItem(5, 7, 2, "ann", "a"), boxItem(6, 4, 1, "ann", "a")}, stateWith(
			impl.Box{Valid: 4, User: "ann", Name: "a", Next: 1}, impl.Box{Valid: 7, User: "ann", Name: "a", Next: 2})},
	} {
		tells(t, c.what, c.list, c.want)
	}
}

func TestStateOfMails(t *testing.T) {
	ann := boxItem(50, 1, 1, "ann", "inbox")
	box := func(next int, mails ...impl.Mail) impl.State {
		return stateWith(impl.Box{Valid: 1, User: "ann", Name: "inbox", Next: next, Mails: mails})
	}
	for _, c := range []struct {
		what string
		list []impl.Item
		want impl.State
	}{
		{"several adds of one mail", []impl.Item{ann, addItem(51, 1, 2, 1, "a"), addItem(53, 1, 2, 2, "b"), addItem(52, 1, 2, 4, "c")}, box(3, impl.Mail{Uid: 2, Flags: 2, Text: "b"})},
		{"two adds that are alike but for Seq", []impl.Item{ann, addItem(51, 1, 2, 1, "a"), addItem(53, 1, 2, 1, "a")}, box(3, impl.Mail{Uid: 2, Flags: 1, Text: "a"})},
		{"an add of a lesser Seq than its box", []impl.Item{ann, addItem(1, 1, 1, 1, "a")}, box(2, impl.Mail{Uid: 1, Flags: 1, Text: "a"})},
		{"a flag of a lesser Seq than its add", []impl.Item{ann, flagItem(51, 1, 1, 6), addItem(52, 1, 1, 1, "a")}, box(2, impl.Mail{Uid: 1, Flags: 6, Text: "a"})},
		{"a flag of nothing", []impl.Item{ann, addItem(51, 1, 1, 7, "a"), flagItem(52, 1, 1, 0)}, box(2, impl.Mail{Uid: 1, Flags: 0, Text: "a"})},
		{"several flags of one mail", []impl.Item{ann, addItem(51, 1, 1, 7, "a"), flagItem(52, 1, 1, 1), flagItem(54, 1, 1, 2), flagItem(53, 1, 1, 4)}, box(2, impl.Mail{Uid: 1, Flags: 2, Text: "a"})},
		{"a flag between two adds", []impl.Item{ann, addItem(51, 1, 1, 7, "a"), flagItem(52, 1, 1, 1), addItem(53, 1, 1, 0, "b")}, box(2, impl.Mail{Uid: 1, Flags: 1, Text: "b"})},
		{"a flag of another mail", []impl.Item{ann, addItem(51, 1, 1, 7, "a"), flagItem(52, 1, 2, 1)}, box(2, impl.Mail{Uid: 1, Flags: 7, Text: "a"})},
		{"a flag of another box", []impl.Item{ann, addItem(51, 1, 1, 7, "a"), flagItem(52, 2, 1, 1)}, box(2, impl.Mail{Uid: 1, Flags: 7, Text: "a"})},
		{"a flag without its add", []impl.Item{ann, flagItem(52, 1, 5, 1)}, box(1)},
		{"a gone mail of a lesser Seq", []impl.Item{ann, goneItem(51, 1, 1), addItem(52, 1, 1, 0, "a")}, box(2)},
		{"a gone mail of a greater Seq", []impl.Item{ann, addItem(51, 1, 1, 0, "a"), goneItem(52, 1, 1)}, box(2)},
		{"a gone mail between two adds", []impl.Item{ann, addItem(51, 1, 1, 0, "a"), goneItem(52, 1, 1), addItem(53, 1, 1, 0, "a")}, box(2)},
		{"a gone mail that was flagged", []impl.Item{ann, addItem(51, 1, 1, 0, "a"), goneItem(52, 1, 1), flagItem(53, 1, 1, 4)}, box(2)},
		{"a gone mail of another box", []impl.Item{ann, addItem(51, 1, 1, 0, "a"), goneItem(52, 2, 1)}, box(2, impl.Mail{Uid: 1, Text: "a"})},
		{"a gone mail that was never added", []impl.Item{ann, goneItem(52, 1, 7)}, box(8)},
		{"a gone mail of MaxValid that was never added", []impl.Item{ann, goneItem(52, 1, impl.MaxValid)}, box(impl.MaxValid + 1)},
		{"all mails gone", []impl.Item{ann, goneItem(51, 1, 1), addItem(52, 1, 2, 0, "b"), addItem(53, 1, 1, 0, "a"), goneItem(54, 1, 2)}, box(3)},
		{"Uids at their limits", []impl.Item{ann, addItem(51, 1, impl.MaxValid, 7, strings.Repeat("\xff", impl.MaxText9)), addItem(52, 1, 1, 0, "")}, box(impl.MaxValid+1,
			impl.Mail{Uid: 1}, impl.Mail{Uid: impl.MaxValid, Flags: 7, Text: strings.Repeat("\xff", impl.MaxText9)})},
		{"a flag does not raise Next", []impl.Item{ann, addItem(51, 1, 2, 0, "a"), flagItem(52, 1, impl.MaxValid, 1)}, box(3, impl.Mail{Uid: 2, Text: "a"})},
		{"a box's own Next is above its mails", []impl.Item{boxItem(50, 1, 9, "ann", "inbox"), addItem(51, 1, 2, 0, "a"), goneItem(52, 1, 7)}, box(9, impl.Mail{Uid: 2, Text: "a"})},
		{"an older Next is above", []impl.Item{ann, boxItem(1, 1, 6, "ann", "inbox"), addItem(51, 1, 2, 0, "a")}, box(6, impl.Mail{Uid: 2, Text: "a"})},
		{"an add without its box", []impl.Item{addItem(52, 1, 5, 1, "a")}, impl.State{}},
		{"a gone mail without its box", []impl.Item{goneItem(52, 1, 5)}, impl.State{}},
		{"a flag without its box", []impl.Item{flagItem(52, 1, 5, 3)}, impl.State{}},
		{"much without its box", []impl.Item{addItem(51, 2, 5, 1, "a"), flagItem(52, 2, 5, 3), goneItem(53, 2, 4), addItem(54, 2, 4, 0, "b"), ann}, box(1)},
		{"one Uid in two boxes", []impl.Item{ann, boxItem(51, 2, 1, "ann", "old"), addItem(52, 2, 3, 0, "b"), addItem(53, 1, 3, 0, "a"), flagItem(54, 2, 3, 1), goneItem(55, 1, 3)}, stateWith(
			impl.Box{Valid: 1, User: "ann", Name: "inbox", Next: 4}, impl.Box{Valid: 2, User: "ann", Name: "old", Next: 4, Mails: []impl.Mail{{Uid: 3, Flags: 1, Text: "b"}}})},
	} {
		tells(t, c.what, c.list, c.want)
	}
}

// A list of 200 is told whole, the last item of it, too.
func TestStateOfAsManyItemsAsThereMayBe(t *testing.T) {
	list, mails := []impl.Item{boxItem(1, 1, 1, "ann", "inbox")}, []impl.Mail{}
	for uid := 1; uid < 200; uid++ {
		text := fmt.Sprint("mail ", uid)
		list, mails = append(list, addItem(1+uid, 1, uid, uid%8, text)), append(mails, impl.Mail{Uid: uid, Flags: uid % 8, Text: text})
	}
	want := stateWith(impl.Box{Valid: 1, User: "ann", Name: "inbox", Next: 200, Mails: mails})
	tells(t, "200 items", list, want)
	backward := slices.Clone(list)
	slices.Reverse(backward)
	tells(t, "200 items, from the last one on", backward, want)
	tellsNothing(t, "201 items", append(slices.Clone(list), dropItem(201, 2)))
	tellsNothing(t, "201 items, one of them twice", append(slices.Clone(list), list[0]))
	boxes, told := []impl.Item{}, impl.State{}
	for valid := 200; valid > 0; valid-- {
		boxes = append(boxes, boxItem(valid, valid, valid, "ann", "inbox"))
	}
	for valid := 1; valid <= 200; valid++ {
		told.Boxes = append(told.Boxes, impl.Box{Valid: valid, User: "ann", Name: "inbox", Next: valid})
	}
	tells(t, "200 boxes", boxes, told)
}

func TestItemsOk(t *testing.T) {
	x := addItem(3, 1, 2, 4, "b")
	for what, list := range map[string][]impl.Item{
		"no items":                nil,
		"an empty list":           {},
		"one":                     {x},
		"one twice":               {x, x},
		"one twice, one between":  {x, dropItem(9, 9), x},
		"one 200 times":           slices.Repeat([]impl.Item{x}, 200),
		"200 that are unlike":     manySeqs(200),
		"a Seq of 1":              {dropItem(1, 1)},
		"a Seq of MaxNumber":      {dropItem(impl.MaxNumber, 1), dropItem(1, 1)},
		"one record of two Seqs":  {addItem(3, 1, 2, 4, "b"), addItem(4, 1, 2, 4, "b")},
		"Seqs in no order":        {dropItem(9, 1), dropItem(2, 1), dropItem(5, 1)},
		"a User that is the Name": {boxItem(1, 1, 1, "ann", "ann")},
	} {
		if !impl.ItemsOk(list) || !itemsRightAsSaid(list) {
			t.Errorf("%s: not ItemsOk", what)
		}
	}
	for _, r := range rightRecs() {
		if list := []impl.Item{{Seq: 5, Rec: r}}; !impl.ItemsOk(list) {
			t.Errorf("not ItemsOk: %+v", list)
		}
	}
}

func manySeqs(n int) []impl.Item {
	list := []impl.Item{}
	for i := range n {
		list = append(list, flagItem(i+1, 1, i+1, i%8))
	}
	return list
}

func TestItemsOkRefuses(t *testing.T) {
	x := addItem(3, 1, 2, 4, "b")
	for what, list := range map[string][]impl.Item{
		"one 201 times":       slices.Repeat([]impl.Item{x}, 201),
		"201 that are unlike": manySeqs(201),
		"1000":                manySeqs(1000),
		"an item of nothing":  {{}},
	} {
		tellsNothing(t, what, list)
	}
	for _, seq := range wrongFrameNumbers {
		for at := range len(plainItems()) {
			list := plainItems()
			list[at].Seq = seq
			tellsNothing(t, fmt.Sprint("a Seq of ", seq), list)
		}
		tellsNothing(t, fmt.Sprint("a Seq of ", seq, " alone"), []impl.Item{boxItem(seq, 1, 1, "ann", "inbox")})
	}
}

func TestItemsOkRefusesRecordsThatAreNotRight(t *testing.T) {
	for _, r := range wrongRecs() {
		wrong := impl.Item{Seq: 99, Rec: r}
		tellsNothing(t, fmt.Sprintf("%#v alone", r), []impl.Item{wrong})
		tellsNothing(t, fmt.Sprintf("%#v ahead", r), append([]impl.Item{wrong}, plainItems()...))
		tellsNothing(t, fmt.Sprintf("%#v behind", r), append(plainItems(), wrong))
		tellsNothing(t, fmt.Sprintf("%#v twice", r), append(plainItems(), wrong, wrong))
	}
}

func TestItemsOkRefusesTwoOfOneSeq(t *testing.T) {
	for _, c := range [][2]impl.Item{
		{boxItem(7, 1, 2, "ann", "inbox"), boxItem(7, 2, 2, "ann", "inbox")},
		{boxItem(7, 1, 2, "ann", "inbox"), boxItem(7, 1, 3, "ann", "inbox")},
		{boxItem(7, 1, 2, "ann", "inbox"), boxItem(7, 1, 2, "bob", "inbox")},
		{boxItem(7, 1, 2, "ann", "inbox"), boxItem(7, 1, 2, "ann", "old")},
		{boxItem(7, 1, 2, "ann", "inbox"), dropItem(7, 1)},
		{dropItem(7, 1), dropItem(7, 2)},
		{addItem(7, 1, 1, 0, "a"), addItem(7, 2, 1, 0, "a")},
		{addItem(7, 1, 1, 0, "a"), addItem(7, 1, 2, 0, "a")},
		{addItem(7, 1, 1, 0, "a"), addItem(7, 1, 1, 1, "a")},
		{addItem(7, 1, 1, 0, "a"), addItem(7, 1, 1, 0, "b")},
		{addItem(7, 1, 1, 0, ""), flagItem(7, 1, 1, 0)},
		{flagItem(7, 1, 1, 0), flagItem(7, 1, 1, 1)},
		{flagItem(7, 1, 1, 0), goneItem(7, 1, 1)},
		{goneItem(7, 1, 1), goneItem(7, 1, 2)},
		{goneItem(7, 1, 1), goneItem(7, 2, 1)},
	} {
		for _, pair := range [][]impl.Item{{c[0], c[1]}, {c[1], c[0]}} {
			tellsNothing(t, "two of one Seq", pair)
			tellsNothing(t, "two of one Seq, others between", slices.Concat(pair[:1], plainItems(), pair[1:]))
			tellsNothing(t, "two of one Seq, one of them twice", append(pair, pair[0]))
			tellsNothing(t, "two of one Seq, the other one twice", append(pair, pair[1]))
			tellsNothing(t, "two of one Seq behind others", append(plainItems(), pair...))
		}
	}
}

func TestStateOfDrawnListsIsWhatTheDocumentSays(t *testing.T) {
	d := drawing(7)
	for round := range 3000 {
		list := d.items(1 + d.below(60))
		want := stateAsSaid(list)
		got := impl.StateOf(list)
		if !sameTold(got, want) || !impl.SameState(got, want) {
			t.Fatalf("round %d: of %+v is told %+v, not %+v", round, list, got, want)
		}
		for range 3 {
			twice := append(d.shuffled(list), d.shuffled(list)[:d.below(len(list)+1)]...)
			if other := impl.StateOf(d.shuffled(twice)); !sameTold(other, want) {
				t.Fatalf("round %d: in another order, some twice, of %+v is told %+v, not %+v", round, list, other, want)
			}
		}
		inOrder(t, got)
	}
}

// inOrder asks that boxes and mails ascend, and that no Next is given yet.
func inOrder(t *testing.T, s impl.State) {
	t.Helper()
	valid := 0
	for _, b := range s.Boxes {
		if b.Valid <= valid {
			t.Errorf("boxes do not ascend: %+v", s)
		}
		valid = b.Valid
		uid := 0
		for _, m := range b.Mails {
			if m.Uid <= uid || m.Uid >= b.Next {
				t.Errorf("mails do not ascend, or reach Next: %+v", b)
			}
			uid = m.Uid
		}
	}
}

// givenOnce asks for new numbers as a store would, from what is told, and
// hands the records in one more order each time.
type givenOnce struct {
	draw  drawing
	list  []impl.Item
	given map[[2]int]bool
}

func (g *givenOnce) put(x impl.Rec) {
	g.list = g.draw.shuffled(append(g.list, impl.Item{Seq: len(g.list) + 1, Rec: x}))
}

func (g *givenOnce) step(t *testing.T) {
	s, valid := impl.StateOf(g.list), impl.ValidAfter(g.list)
	if len(s.Boxes) == 0 || g.draw.below(12) == 0 {
		g.give(t, valid, 0)
		g.put(boxItem(0, valid, 1, "ann", "inbox").Rec)
		return
	}
	b := s.Boxes[g.draw.below(len(s.Boxes))]
	switch {
	case g.draw.below(20) == 0:
		g.put(dropItem(0, b.Valid).Rec)
	case len(b.Mails) > 0 && g.draw.below(2) == 0:
		g.put(goneItem(0, b.Valid, b.Mails[g.draw.below(len(b.Mails))].Uid).Rec)
	default:
		g.give(t, b.Valid, b.Next)
		g.put(addItem(0, b.Valid, b.Next, 0, "a").Rec)
	}
}

func (g *givenOnce) give(t *testing.T, valid, uid int) {
	t.Helper()
	if g.given[[2]int{valid, uid}] {
		t.Fatalf("given twice: Valid %d, Uid %d", valid, uid)
	}
	g.given[[2]int{valid, uid}] = true
}

func TestNoNumberIsGivenTwice(t *testing.T) {
	for seed := range 20 {
		g := givenOnce{draw: drawing(seed), given: map[[2]int]bool{}}
		for range 200 {
			g.step(t)
		}
		if len(g.given) < 80 {
			t.Errorf("just %d numbers were given", len(g.given))
		}
	}
}

func TestValidAfter(t *testing.T) {
	for _, c := range []struct {
		what string
		list []impl.Item
		want int
	}{
		{"nil", nil, 1},
		{"no items", []impl.Item{}, 1},
		{"one", []impl.Item{boxItem(9, 1, 1, "ann", "inbox")}, 2},
		{"one box", plainItems(), 2},
		{"several boxes", manyItems(), 6},
		{"the greatest first", []impl.Item{dropItem(1, 40), boxItem(9, 1, 1, "ann", "inbox"), dropItem(2, 3)}, 41},
		{"the greatest in the middle", []impl.Item{dropItem(1, 4), boxItem(9, 77, 1, "ann", "inbox"), dropItem(2, 3)}, 78},
		{"a dropped box's", []impl.Item{boxItem(1, 6, 1, "ann", "inbox"), dropItem(2, 6)}, 7},
		{"a drop's without its box", []impl.Item{dropItem(2, 6)}, 7},
		{"an add's without its box", []impl.Item{addItem(2, 8, 9000, 0, "")}, 9},
		{"a flag's without its box", []impl.Item{flagItem(2, 8, 9000, 0)}, 9},
		{"a gone mail's without its box", []impl.Item{goneItem(2, 8, 9000)}, 9},
		{"MaxValid", []impl.Item{dropItem(2, impl.MaxValid)}, impl.MaxValid + 1},
		{"beyond MaxValid", []impl.Item{dropItem(2, impl.MaxValid+1), dropItem(2, 5)}, impl.MaxValid + 2},
		{"records that are not right", []impl.Item{{}, {Seq: -1, Rec: impl.Rec{Kind: 9, Valid: 31}}}, 32},
		{"a Valid of 0", []impl.Item{{}}, 1},
		{"Valids below 0", []impl.Item{dropItem(1, -7), dropItem(2, -5)}, -4},
		{"the least Valid", []impl.Item{dropItem(1, math.MinInt)}, math.MinInt + 1},
		{"two of one Seq", []impl.Item{dropItem(1, 3), dropItem(1, 4)}, 5},
		{"more than 200", append(manySeqs(300), dropItem(301, 12)), 13},
	} {
		if got := impl.ValidAfter(c.list); got != c.want {
			t.Errorf("%s: ValidAfter is %d, not %d", c.what, got, c.want)
		}
	}
}

func TestBoxOf(t *testing.T) {
	s := manyState()
	for _, want := range s.Boxes {
		got, ok := impl.BoxOf(s, want.User, want.Name)
		if !ok || !sameTold(stateWith(got), stateWith(want)) {
			t.Errorf("BoxOf %s, %s is %+v, %v", want.User, want.Name, got, ok)
		}
	}
	first, second := impl.Box{Valid: 9, User: "ann", Name: "a", Next: 7, Mails: []impl.Mail{{Uid: 4, Flags: 1, Text: "x"}}}, impl.Box{Valid: 3, User: "ann", Name: "a", Next: 2}
	for _, c := range [][2]impl.Box{{first, second}, {second, first}} {
		got, ok := impl.BoxOf(stateWith(impl.Box{User: "a", Name: "ann"}, c[0], c[1]), "ann", "a")
		if !ok || !sameTold(stateWith(got), stateWith(c[0])) {
			t.Errorf("of two that are alike BoxOf is %+v, %v", got, ok)
		}
	}
	if got, ok := impl.BoxOf(stateWith(impl.Box{Valid: -1, Next: -1, Mails: []impl.Mail{{Uid: -4, Flags: 99}}}), "", ""); !ok || got.Valid != -1 || len(got.Mails) != 1 {
		t.Errorf("of a box that is not right BoxOf is %+v, %v", got, ok)
	}
}

func TestBoxOfWithoutOne(t *testing.T) {
	for _, c := range []struct {
		s          impl.State
		user, name string
	}{
		{impl.State{}, "ann", "inbox"}, {impl.State{}, "", ""}, {manyState(), "cid", "inbox"}, {manyState(), "ann", "none"},
		{manyState(), "bob", "old"}, {manyState(), "inbox", "ann"}, {manyState(), "", "inbox"}, {manyState(), "ann", ""},
		{manyState(), "", ""}, {manyState(), "Ann", "inbox"}, {manyState(), "ann", "inbo"}, {manyState(), "ann", "inboxx"},
		{manyState(), "an", "ninbox"}, {manyState(), "anni", "nbox"}, {manyState(), "ann\x00", "inbox"},
	} {
		got, ok := impl.BoxOf(c.s, c.user, c.name)
		if ok || !sameTold(stateWith(got), stateWith(impl.Box{})) {
			t.Errorf("BoxOf %q, %q is %+v, %v", c.user, c.name, got, ok)
		}
	}
}

func TestBoxesOf(t *testing.T) {
	for _, c := range []struct {
		what string
		s    impl.State
		user string
		want []string
	}{
		{"several", manyState(), "ann", []string{"inbox", "old", "bin"}},
		{"one", manyState(), "bob", []string{"inbox"}},
		{"a user without a box", manyState(), "cid", nil},
		{"a box's name as user", manyState(), "inbox", nil},
		{"no word", manyState(), "", nil},
		{"a beginning", manyState(), "an", nil},
		{"no boxes", impl.State{}, "ann", nil},
		{"no boxes, no word", impl.State{}, "", nil},
		{"boxes that do not ascend", stateWith(impl.Box{Valid: 9, User: "ann", Name: "c"}, impl.Box{Valid: 2, User: "bob", Name: "b"}, impl.Box{Valid: -3, User: "ann", Name: "a"}, impl.Box{Valid: 5, User: "ann", Name: "z"}), "ann", []string{"a", "z", "c"}},
		{"two of one Valid", stateWith(impl.Box{Valid: 5, User: "ann", Name: "z"}, impl.Box{Valid: 5, User: "ann", Name: "a"}, impl.Box{Valid: 4, User: "ann", Name: "m"}), "ann", []string{"m", "z", "a"}},
		{"two of one Name", stateWith(impl.Box{Valid: 5, User: "ann", Name: "z"}, impl.Box{Valid: 6, User: "ann", Name: "z"}), "ann", []string{"z", "z"}},
		{"empty words", stateWith(impl.Box{}), "", []string{""}},
	} {
		if got := impl.BoxesOf(c.s, c.user); !slices.Equal(got, c.want) {
			t.Errorf("%s: BoxesOf is %q, not %q", c.what, got, c.want)
		}
	}
}

// copyState shares nothing with s.
func copyState(s impl.State) impl.State {
	out := impl.State{Boxes: slices.Clone(s.Boxes)}
	for i := range out.Boxes {
		out.Boxes[i].Mails = slices.Clone(out.Boxes[i].Mails)
	}
	return out
}

// turnedStates part from manyState in one thing alone.
func turnedStates() map[string]impl.State {
	out := map[string]impl.State{}
	turn := func(what string, change func(*impl.State)) {
		s := copyState(manyState())
		change(&s)
		out[what] = s
	}
	turn("a Valid", func(s *impl.State) { s.Boxes[3].Valid = 6 })
	turn("the first Valid", func(s *impl.State) { s.Boxes[0].Valid = 0 })
	turn("a User", func(s *impl.State) { s.Boxes[2].User = "anna" })
	turn("a Name", func(s *impl.State) { s.Boxes[2].Name = "olds" })
	turn("a Next", func(s *impl.State) { s.Boxes[2].Next = 3 })
	turn("the last Next", func(s *impl.State) { s.Boxes[3].Next = 2 })
	turn("an Uid", func(s *impl.State) { s.Boxes[1].Mails[1].Uid = 3 })
	turn("Flags", func(s *impl.State) { s.Boxes[1].Mails[1].Flags = 4 })
	turn("the first Flags", func(s *impl.State) { s.Boxes[0].Mails[0].Flags = 0 })
	turn("a Text", func(s *impl.State) { s.Boxes[1].Mails[1].Text = "mora" })
	turn("a longer Text", func(s *impl.State) { s.Boxes[1].Mails[1].Text = "more\x00" })
	turn("an empty Text", func(s *impl.State) { s.Boxes[1].Mails[0].Text = "" })
	turn("a box more", func(s *impl.State) { s.Boxes = append(s.Boxes, impl.Box{}) })
	turn("the last box twice", func(s *impl.State) { s.Boxes = append(s.Boxes, s.Boxes[3]) })
	turn("the last box not there", func(s *impl.State) { s.Boxes = s.Boxes[:3] })
	turn("the first box not there", func(s *impl.State) { s.Boxes = s.Boxes[1:] })
	turn("no boxes", func(s *impl.State) { s.Boxes = nil })
	turn("a mail more", func(s *impl.State) { s.Boxes[1].Mails = append(s.Boxes[1].Mails, impl.Mail{}) })
	turn("a mail where none was", func(s *impl.State) { s.Boxes[3].Mails = []impl.Mail{{}} })
	turn("the last mail not there", func(s *impl.State) { s.Boxes[1].Mails = s.Boxes[1].Mails[:1] })
	turn("no mails", func(s *impl.State) { s.Boxes[0].Mails = nil })
	turn("boxes in another order", func(s *impl.State) { slices.Reverse(s.Boxes) })
	turn("mails in another order", func(s *impl.State) { slices.Reverse(s.Boxes[1].Mails) })
	turn("User and Name for each other", func(s *impl.State) { s.Boxes[0].User, s.Boxes[0].Name = s.Boxes[0].Name, s.Boxes[0].User })
	turn("bytes from User to Name", func(s *impl.State) { s.Boxes[0].User, s.Boxes[0].Name = "bo", "binbox" })
	turn("the mails of another box", func(s *impl.State) { s.Boxes[0].Mails, s.Boxes[2].Mails = s.Boxes[2].Mails, s.Boxes[0].Mails })
	return out
}

func TestSameState(t *testing.T) {
	for what, s := range turnedStates() {
		if impl.SameState(s, manyState()) || impl.SameState(manyState(), s) {
			t.Errorf("%s: SameState with what it was", what)
		}
		if !impl.SameState(s, copyState(s)) {
			t.Errorf("%s: not SameState with itself", what)
		}
	}
	if !impl.SameState(manyState(), manyState()) || impl.SameState(manyState(), plainState()) {
		t.Error("states are not the same as themselves, or as others")
	}
	for _, pair := range [][2]impl.State{
		{{}, {Boxes: []impl.Box{}}},
		{stateWith(impl.Box{Valid: 1}), stateWith(impl.Box{Valid: 1, Mails: []impl.Mail{}})},
	} {
		if !impl.SameState(pair[0], pair[1]) || !impl.SameState(pair[1], pair[0]) {
			t.Errorf("nil and an empty list part %+v and %+v", pair[0], pair[1])
		}
	}
}

func TestStateOkOfRightStates(t *testing.T) {
	longest := strings.Repeat("\xff", impl.MaxText9)
	all := impl.Box{Valid: 1, User: "ann", Name: "inbox", Next: impl.MaxValid + 1}
	for uid := 1; uid <= impl.MaxValid; uid++ {
		all.Mails = append(all.Mails, impl.Mail{Uid: uid, Flags: uid % 8})
	}
	for what, s := range map[string]impl.State{
		"nothing":                    {},
		"an empty list":              {Boxes: []impl.Box{}},
		"one box":                    plainState(),
		"several boxes":              manyState(),
		"all at its least":           stateWith(impl.Box{Valid: 1, User: "a", Name: "a", Next: 1, Mails: []impl.Mail{}}),
		"all at its greatest":        stateWith(impl.Box{Valid: 9999, User: "zzzzzzzz", Name: "zzzzzzzz", Next: 10000, Mails: []impl.Mail{{Uid: 9999, Flags: 7, Text: longest}}}),
		"one Name of two users":      stateWith(impl.Box{Valid: 1, User: "ann", Name: "a", Next: 1}, impl.Box{Valid: 2, User: "bob", Name: "a", Next: 1}),
		"two Names of one user":      stateWith(impl.Box{Valid: 1, User: "ann", Name: "a", Next: 1}, impl.Box{Valid: 9, User: "ann", Name: "b", Next: 1}),
		"words for each other":       stateWith(impl.Box{Valid: 1, User: "ann", Name: "a", Next: 1}, impl.Box{Valid: 2, User: "a", Name: "ann", Next: 1}),
		"words cut elsewhere":        stateWith(impl.Box{Valid: 1, User: "ann", Name: "a", Next: 1}, impl.Box{Valid: 2, User: "an", Name: "na", Next: 1}),
		"the last Uid ahead of Next": stateWith(impl.Box{Valid: 1, User: "ann", Name: "a", Next: 3, Mails: []impl.Mail{{Uid: 1}, {Uid: 2}}}),
		"as many mails as can be":    stateWith(all),
	} {
		if !impl.StateOk(s) {
			t.Errorf("%s: not StateOk", what)
		}
	}
	for _, next := range []int{1, 2, 9998, 9999, 10000} {
		if !impl.StateOk(stateWith(impl.Box{Valid: 1, User: "ann", Name: "inbox", Next: next})) {
			t.Errorf("with Next %d not StateOk", next)
		}
	}
	for _, word := range rightWords {
		if !impl.StateOk(stateWith(impl.Box{Valid: 1, User: word, Name: "inbox", Next: 1}, impl.Box{Valid: 2, User: "bob", Name: word, Next: 1})) {
			t.Errorf("with %q not StateOk", word)
		}
	}
}

// refusesState asks of a wrong box alone, and ahead of and behind right ones.
func refusesState(t *testing.T, what string, b impl.Box) {
	t.Helper()
	for _, s := range []impl.State{
		stateWith(b),
		stateWith(b, impl.Box{Valid: impl.MaxValid, User: "zed", Name: "zed", Next: 1}),
		stateWith(impl.Box{Valid: 1, User: "zed", Name: "zed", Next: 1}, b),
	} {
		if impl.StateOk(s) {
			t.Errorf("%s: StateOk of %+v", what, s)
		}
	}
}

func TestStateOkRefusesBoxes(t *testing.T) {
	right := impl.Box{Valid: 5, User: "ann", Name: "inbox", Next: 3, Mails: []impl.Mail{{Uid: 1, Flags: 1, Text: "a"}, {Uid: 2}}}
	for _, n := range wrongValids {
		b := right
		b.Valid = n
		refusesState(t, "a Valid", b)
	}
	for _, n := range wrongNexts {
		b := right
		b.Next, b.Mails = n, nil
		refusesState(t, "a Next", b)
		b.Mails = right.Mails
		refusesState(t, "a Next with mails", b)
	}
	for _, word := range wrongWords {
		b := right
		b.User = word
		refusesState(t, "a User", b)
		b = right
		b.Name = word
		refusesState(t, "a Name", b)
	}
	refusesState(t, "nothing", impl.Box{})
}

func TestStateOkRefusesMails(t *testing.T) {
	with := func(next int, mails ...impl.Mail) impl.Box {
		return impl.Box{Valid: 5, User: "ann", Name: "inbox", Next: next, Mails: mails}
	}
	for _, n := range wrongValids {
		refusesState(t, "an Uid alone", with(impl.MaxValid+1, impl.Mail{Uid: n}))
		refusesState(t, "an Uid ahead", with(impl.MaxValid+1, impl.Mail{Uid: n}, impl.Mail{Uid: 9999}))
		refusesState(t, "an Uid behind", with(impl.MaxValid+1, impl.Mail{Uid: 1}, impl.Mail{Uid: n}))
	}
	for _, n := range wrongFlags {
		refusesState(t, "Flags", with(3, impl.Mail{Uid: 1, Flags: n}, impl.Mail{Uid: 2}))
		refusesState(t, "the last Flags", with(3, impl.Mail{Uid: 1}, impl.Mail{Uid: 2, Flags: n}))
	}
	for _, text := range wrongTexts {
		refusesState(t, "a Text", with(3, impl.Mail{Uid: 1, Text: text}, impl.Mail{Uid: 2}))
		refusesState(t, "the last Text", with(3, impl.Mail{Uid: 1}, impl.Mail{Uid: 2, Text: text}))
	}
	for _, next := range []int{1, 2, 7, impl.MaxValid} {
		refusesState(t, "an Uid of Next", with(next, impl.Mail{Uid: next}))
		refusesState(t, "an Uid beyond Next", with(next, impl.Mail{Uid: next + 1}))
		refusesState(t, "the last Uid of Next", with(next, impl.Mail{Uid: 1}, impl.Mail{Uid: next}))
	}
	refusesState(t, "mails that descend", with(9, impl.Mail{Uid: 2}, impl.Mail{Uid: 1}))
	refusesState(t, "a mail twice", with(9, impl.Mail{Uid: 2}, impl.Mail{Uid: 2}))
	refusesState(t, "a mail twice, one between", with(9, impl.Mail{Uid: 2}, impl.Mail{Uid: 3}, impl.Mail{Uid: 2}))
	refusesState(t, "the last one too low", with(9, impl.Mail{Uid: 1}, impl.Mail{Uid: 5}, impl.Mail{Uid: 4}))
}

func TestStateOkRefusesBoxesThatDoNotFitTogether(t *testing.T) {
	box := func(valid int, user, name string) impl.Box {
		return impl.Box{Valid: valid, User: user, Name: name, Next: 1}
	}
	for what, s := range map[string]impl.State{
		"boxes that descend":             stateWith(box(2, "ann", "a"), box(1, "ann", "b")),
		"the last one too low":           stateWith(box(1, "ann", "a"), box(5, "ann", "b"), box(4, "ann", "c")),
		"two of one Valid":               stateWith(box(2, "ann", "a"), box(2, "ann", "b")),
		"two of one Valid, one between":  stateWith(box(2, "ann", "a"), box(3, "bob", "a"), box(2, "ann", "b")),
		"a box twice":                    stateWith(box(2, "ann", "a"), box(2, "ann", "a")),
		"one User and Name":              stateWith(box(1, "ann", "a"), box(2, "ann", "a")),
		"one User and Name, one between": stateWith(box(1, "ann", "a"), box(2, "ann", "b"), box(3, "ann", "a")),
		"one User and Name, at the end":  stateWith(box(1, "ann", "a"), box(2, "bob", "b"), box(9, "bob", "b")),
	} {
		if impl.StateOk(s) {
			t.Errorf("%s: StateOk", what)
		}
	}
	several := impl.StateOf([]impl.Item{boxItem(5, 7, 2, "ann", "a"), boxItem(6, 4, 1, "ann", "a")})
	if len(several.Boxes) != 2 || impl.StateOk(several) {
		t.Errorf("two boxes of one User and Name are told, and right: %+v", several)
	}
}

// What is told of right items is right, unless two boxes have one name.
func TestWhatIsToldIsRight(t *testing.T) {
	d := drawing(11)
	for range 2000 {
		s := impl.StateOf(d.items(1 + d.below(40)))
		names := map[[2]string]bool{}
		for _, b := range s.Boxes {
			names[[2]string{b.User, b.Name}] = true
		}
		if got := impl.StateOk(s); got != (len(names) == len(s.Boxes)) {
			t.Fatalf("StateOk is %v of %+v", got, s)
		}
	}
}

// roomyItems are the same items, with room behind the list and its texts.
func roomyItems(list []impl.Item) []impl.Item {
	out := make([]impl.Item, 0, len(list)+2)
	for _, x := range list {
		r, _ := roomyRec(x.Rec)
		out = append(out, impl.Item{Seq: x.Seq, Rec: r})
	}
	return append(out, dropItem(77, 77), dropItem(78, 78))[:len(list)]
}

func textsOfState(s impl.State) []string {
	out := []string{}
	for _, b := range s.Boxes {
		out = append(out, b.User, b.Name)
		for _, m := range b.Mails {
			out = append(out, m.Text)
		}
	}
	return out
}

// noneShared asks that no text lies where another one does.
func noneShared(t *testing.T, what string, texts []string) {
	t.Helper()
	for i, s := range texts {
		for _, other := range texts[:i] {
			if overlap(s, other) {
				t.Errorf("%s: %q and %q share memory", what, s, other)
			}
		}
	}
}

// scribbleState writes over all lists, and into their spare room.
func scribbleState(s impl.State) {
	for _, b := range s.Boxes {
		for i := range b.Mails[:cap(b.Mails)] {
			b.Mails[:cap(b.Mails)][i] = impl.Mail{Uid: 77, Flags: 7, Text: "scribble"}
		}
	}
	for i := range s.Boxes[:cap(s.Boxes)] {
		s.Boxes[:cap(s.Boxes)][i] = impl.Box{Valid: 77, User: "scribble"}
	}
}

func TestNoListOfItemsIsWrittenOn(t *testing.T) {
	wrong := append(plainItems(), addItem(6, 1, 1, 0, "another one of that Seq"))
	backward := manyItems()
	slices.Reverse(backward)
	for what, plain := range map[string][]impl.Item{"one box": plainItems(), "several": manyItems(), "from the last one on": backward, "wrong": wrong, "none": {}} {
		list := roomyItems(plain)
		before := slices.Clone(list[:len(list)+2])
		first, second := impl.StateOf(list), impl.StateOf(list)
		impl.ItemsOk(list)
		impl.ValidAfter(list)
		texts := append(textsOfState(first), textsOfState(second)...)
		for _, x := range list {
			texts = append(texts, x.Rec.User, x.Rec.Name, x.Rec.Text)
		}
		noneShared(t, what, texts)
		scribbleState(first)
		if !slices.Equal(list[:len(list)+2], before) || !slices.Equal(list, plain) {
			t.Errorf("%s: the list is written on", what)
		}
		if !sameTold(second, stateAsSaid(plain)) {
			t.Errorf("%s: two answers share memory", what)
		}
	}
}

// roomyState is the same state, with room behind its lists and texts.
func roomyState(s impl.State) impl.State {
	out := impl.State{Boxes: make([]impl.Box, 0, len(s.Boxes)+2)}
	for _, b := range s.Boxes {
		mails := make([]impl.Mail, 0, len(b.Mails)+2)
		for _, m := range b.Mails {
			m.Text, _ = roomy(m.Text)
			mails = append(mails, m)
		}
		b.Mails = append(mails, impl.Mail{Uid: 55}, impl.Mail{Uid: 56})[:len(b.Mails)]
		b.User, _ = roomy(b.User)
		b.Name, _ = roomy(b.Name)
		out.Boxes = append(out.Boxes, b)
	}
	out.Boxes = append(out.Boxes, impl.Box{Valid: 55}, impl.Box{Valid: 56})
	out.Boxes = out.Boxes[:len(s.Boxes)]
	return out
}

// fullState has all lists with their spare room in sight, as a copy.
func fullState(s impl.State) impl.State {
	out := impl.State{Boxes: slices.Clone(s.Boxes[:cap(s.Boxes)])}
	for i, b := range out.Boxes {
		out.Boxes[i].Mails = slices.Clone(b.Mails[:cap(b.Mails)])
	}
	return out
}

func TestNoStateIsWrittenOn(t *testing.T) {
	states := turnedStates()
	states["several"], states["one"] = manyState(), plainState()
	for what, plain := range states {
		s := roomyState(plain)
		before := fullState(s)
		impl.StateOk(s)
		impl.SameState(s, s)
		texts := textsOfState(s)
		for _, b := range plain.Boxes {
			for range 2 {
				got, _ := impl.BoxOf(s, b.User, b.Name)
				names := impl.BoxesOf(s, b.User)
				texts = append(append(texts, textsOfState(stateWith(got))...), names...)
				scribbleState(stateWith(got))
				for i := range names[:cap(names)] {
					names[:cap(names)][i] = "scribble"
				}
			}
		}
		impl.BoxOf(s, "nobody", "inbox")
		impl.BoxesOf(s, "nobody")
		if !sameTold(fullState(s), before) || !sameTold(s, plain) {
			t.Errorf("%s: the state is written on", what)
		}
		noneShared(t, what, texts)
	}
}
