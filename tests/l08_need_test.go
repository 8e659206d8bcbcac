package tests

import (
	"fmt"
	"math"
	"slices"
	"strings"
	"testing"

	"loop.example/g00287/impl"
)

// boxTold is the box of this Valid, as the document says.
func boxTold(list []impl.Item, valid int) (impl.Box, bool) {
	for _, b := range stateAsSaid(list).Boxes {
		if b.Valid == valid {
			return b, true
		}
	}
	return impl.Box{}, false
}

// neededAsSaid is the document's own words.
func neededAsSaid(list []impl.Item, k int) bool {
	if k < 0 || k >= len(list) || !itemsRightAsSaid(list) {
		return false
	}
	x, r := list[k], list[k].Rec
	if slices.ContainsFunc(list[:k], func(y impl.Item) bool { return y.Seq == x.Seq }) {
		return false
	}
	box, boxThere := boxTold(list, r.Valid)
	mailThere := slices.ContainsFunc(box.Mails, func(m impl.Mail) bool { return m.Uid == r.Uid })
	alike := those(list, r.Kind, r.Valid, r.Uid)
	switch r.Kind {
	case impl.RecBox:
		next := greatest(alike, nextOfItem)
		of := slices.DeleteFunc(alike, func(y impl.Item) bool { return y.Rec.Next != next })
		return boxThere && r.Next == next && x.Seq == latest(of).Seq
	case impl.RecDrop:
		others := slices.ContainsFunc(list, func(y impl.Item) bool { return y.Rec.Valid == r.Valid && y.Rec.Kind != r.Kind })
		return others && x.Seq == latest(alike).Seq
	case impl.RecAdd, impl.RecFlag:
		return mailThere && x.Seq == latest(alike).Seq
	}
	return boxThere && len(those(list, impl.RecAdd, r.Valid, r.Uid)) > 0 && x.Seq == latest(alike).Seq
}

func allNeededAsSaid(list []impl.Item) []bool {
	out := []bool{}
	for k := range list {
		out = append(out, neededAsSaid(list, k))
	}
	return out
}

func withoutAsSaid(list []impl.Item, drop []bool) []impl.Item {
	out := []impl.Item{}
	for i, x := range list {
		if i >= len(drop) || !drop[i] {
			out = append(out, x)
		}
	}
	return out
}

func nextsAsSaid(list []impl.Item, drop []bool) []impl.Rec {
	out, left := []impl.Rec{}, withoutAsSaid(list, drop)
	for _, b := range stateAsSaid(list).Boxes {
		if now, there := boxTold(left, b.Valid); !there || now.Next < b.Next {
			out = append(out, boxItem(0, b.Valid, b.Next, b.User, b.Name).Rec)
		}
	}
	return out
}

func shrunkAsSaid(list []impl.Item, drop []bool, seq int) []impl.Item {
	goes := make([]bool, len(list))
	for i := range list {
		goes[i] = i < len(drop) && drop[i] && !neededAsSaid(list, i)
	}
	out := withoutAsSaid(list, goes)
	for i, r := range nextsAsSaid(list, goes) {
		out = append(out, impl.Item{Seq: seq + i, Rec: r})
	}
	return out
}

// flagsOf has true for each x.
func flagsOf(marks string) []bool {
	out := []bool{}
	for _, c := range marks {
		out = append(out, c == 'x')
	}
	return out
}

func marksOf(flags []bool) string {
	out := ""
	for _, f := range flags {
		if f {
			out += "x"
		} else {
			out += "-"
		}
	}
	return out
}

func allSo(n int) []bool {
	return slices.Repeat([]bool{true}, n)
}

// dropsOf is every drop of so many items.
func dropsOf(n int) [][]bool {
	out := [][]bool{}
	for bits := range 1 << n {
		drop := make([]bool, n)
		for i := range drop {
			drop[i] = bits>>i&1 == 1
		}
		out = append(out, drop)
	}
	return out
}

func (d *drawing) drop(n int) []bool {
	out, of := make([]bool, n), 1+d.below(4)
	for i := range out {
		out[i] = d.below(of) == 0
	}
	return out
}

// twice draws some of the items once more, at any place.
func (d *drawing) twice(list []impl.Item) []impl.Item {
	out := slices.Clone(list)
	for range d.below(6) {
		out = slices.Insert(out, d.below(len(out)+1), list[d.below(len(list))])
	}
	return out
}

// freeSeq is one that no item of the list has, nor the next ones behind it.
func freeSeq(list []impl.Item) int {
	last := greatest(list, func(x impl.Item) int { return x.Seq })
	if last < impl.MaxNumber-200 {
		return last + 1
	}
	for seq := 1; ; seq += 200 {
		if !slices.ContainsFunc(list, func(x impl.Item) bool { return seq <= x.Seq && x.Seq < seq+200 }) {
			return seq
		}
	}
}

// needs asks one by one, and all together, which are needed.
func needs(t *testing.T, what string, list []impl.Item, want []bool) {
	t.Helper()
	if got := impl.NeededAll(list); !slices.Equal(got, want) {
		t.Errorf("%s: of %+v NeededAll is %s, not %s", what, list, marksOf(got), marksOf(want))
	}
	for k := range list {
		if got := impl.Needed(list, k); got != want[k] {
			t.Errorf("%s: of %+v at %d Needed is %v", what, list, k, got)
		}
	}
	for _, k := range []int{-1, -2, -len(list), -len(list) - 1, len(list), len(list) + 1, 2*len(list) + 1, 1 << 32, math.MaxInt, math.MinInt} {
		if (k < 0 || k >= len(list)) && impl.Needed(list, k) {
			t.Errorf("%s: Needed at %d, where there is none", what, k)
		}
	}
}

// shrinks asks for all that hangs on drop, as the document says it; and, of
// items that are right, that what is shrunk tells the same.
func shrinks(t *testing.T, what string, list []impl.Item, drop []bool, seq int) []impl.Item {
	t.Helper()
	if got, want := impl.Without(list, drop), withoutAsSaid(list, drop); !slices.Equal(got, want) {
		t.Errorf("%s: of %+v Without %s is %+v, not %+v", what, list, marksOf(drop), got, want)
	}
	if got, want := impl.NextsOf(list, drop), nextsAsSaid(list, drop); !slices.Equal(got, want) {
		t.Errorf("%s: of %+v NextsOf %s is %+v, not %+v", what, list, marksOf(drop), got, want)
	}
	got := impl.Shrunk(list, drop, seq)
	if want := shrunkAsSaid(list, drop, seq); !slices.Equal(got, want) {
		t.Errorf("%s: %+v Shrunk by %s is %+v, not %+v", what, list, marksOf(drop), got, want)
	}
	if seq == freeSeq(list) && itemsRightAsSaid(list) && (!itemsRightAsSaid(got) || !sameTold(stateAsSaid(got), stateAsSaid(list)) || !impl.SameState(impl.StateOf(got), impl.StateOf(list))) {
		t.Errorf("%s: %+v Shrunk by %s is %+v, which tells %+v, not %+v", what, list, marksOf(drop), got, impl.StateOf(got), stateAsSaid(list))
	}
	return got
}

// asSaid asks of one list for all there is to ask.
func asSaid(t *testing.T, what string, list []impl.Item) {
	t.Helper()
	needs(t, what, list, allNeededAsSaid(list))
	drops, d := [][]bool{nil, {}, allSo(len(list)), allSo(len(list) + 5), make([]bool, len(list)), {true}, {false, true}}, drawing(len(list))
	if len(list) <= 7 {
		drops = append(drops, dropsOf(len(list))...)
	}
	for range 5 {
		drops = append(drops, d.drop(len(list)), d.drop(d.below(len(list)+1)))
	}
	for _, drop := range drops {
		shrinks(t, what, list, drop, freeSeq(list))
	}
}

// needCases are lists, and which of their items are needed.
func needCases() map[string]needCase {
	ann := boxItem(50, 1, 1, "ann", "inbox")
	return map[string]needCase{
		"one box":                                 {"xx-xxx", plainItems()},
		"several boxes":                           {"xxx--xx-xx-xxx", manyItems()},
		"no items":                                {"", []impl.Item{}},
		"nil":                                     {"", nil},
		"a box alone":                             {"x", []impl.Item{ann}},
		"the same Next, other Seqs":               {"-x-", []impl.Item{boxItem(5, 1, 3, "ann", "a"), boxItem(9, 1, 3, "bob", "b"), boxItem(7, 1, 3, "cid", "c")}},
		"other Nexts":                             {"x--", []impl.Item{boxItem(5, 1, 8, "ann", "a"), boxItem(9, 1, 3, "bob", "b"), boxItem(7, 1, 7, "cid", "c")}},
		"two of the greatest Next":                {"-x-", []impl.Item{boxItem(5, 1, 8, "ann", "a"), boxItem(6, 1, 8, "bob", "b"), boxItem(7, 1, 7, "cid", "c")}},
		"two of the greatest Next, turned round":  {"-x-", []impl.Item{boxItem(7, 1, 7, "cid", "c"), boxItem(6, 1, 8, "bob", "b"), boxItem(5, 1, 8, "ann", "a")}},
		"two boxes that are alike but for Seq":    {"x-", []impl.Item{boxItem(6, 1, 8, "ann", "a"), boxItem(5, 1, 8, "ann", "a")}},
		"two boxes of one User and Name":          {"xx", []impl.Item{boxItem(6, 1, 8, "ann", "a"), boxItem(5, 2, 8, "ann", "a")}},
		"a box whose Next a mail passes":          {"-x-x", []impl.Item{boxItem(5, 1, 2, "ann", "a"), boxItem(6, 1, 3, "bob", "b"), boxItem(9, 1, 2, "cid", "c"), addItem(7, 1, 9, 0, "x")}},
		"a box that was dropped":                  {"-x", []impl.Item{ann, dropItem(51, 1)}},
		"a box that was dropped ahead of it":      {"x-", []impl.Item{dropItem(1, 1), ann}},
		"several boxes of one Valid, dropped":     {"--x", []impl.Item{ann, boxItem(60, 1, 5, "ann", "a"), dropItem(51, 1)}},
		"a box of another Valid, dropped":         {"x-", []impl.Item{ann, dropItem(51, 2)}},
		"all of a box that was dropped":           {"----x-", []impl.Item{ann, addItem(51, 1, 1, 0, "a"), addItem(52, 1, 2, 0, "b"), flagItem(53, 1, 1, 1), dropItem(54, 1), goneItem(55, 1, 2)}},
		"a drop alone":                            {"-", []impl.Item{dropItem(51, 1)}},
		"several drops alone":                     {"---", []impl.Item{dropItem(51, 1), dropItem(53, 1), dropItem(52, 1)}},
		"a drop, and others of another Valid":     {"-xx", []impl.Item{dropItem(51, 2), ann, addItem(52, 1, 1, 0, "a")}},
		"a drop of a lower Valid, and others":     {"-xx", []impl.Item{dropItem(51, 1), boxItem(50, 2, 1, "ann", "a"), addItem(52, 2, 1, 0, "a")}},
		"several drops of a box":                  {"-x--", []impl.Item{dropItem(51, 1), dropItem(53, 1), dropItem(52, 1), ann}},
		"a drop and a mail":                       {"x-", []impl.Item{dropItem(51, 1), addItem(52, 1, 1, 0, "a")}},
		"a drop and a flag":                       {"x-", []impl.Item{dropItem(51, 1), flagItem(52, 1, 1, 0)}},
		"a drop and a gone mail":                  {"-x", []impl.Item{goneItem(52, 1, 1), dropItem(51, 1)}},
		"a drop and a gone mail, its mail, too":   {"-x-", []impl.Item{goneItem(52, 1, 1), dropItem(51, 1), addItem(53, 1, 1, 0, "a")}},
		"drops of two boxes":                      {"-xx-", []impl.Item{ann, dropItem(51, 1), dropItem(52, 2), goneItem(53, 2, 9)}},
		"a mail":                                  {"xx", []impl.Item{ann, addItem(51, 1, 1, 0, "a")}},
		"a mail of a lesser Seq than its box":     {"xx", []impl.Item{addItem(1, 1, 1, 0, "a"), ann}},
		"several adds of one mail":                {"x-x-", []impl.Item{ann, addItem(51, 1, 2, 1, "a"), addItem(53, 1, 2, 2, "b"), addItem(52, 1, 2, 4, "c")}},
		"two adds that are alike but for Seq":     {"xx-", []impl.Item{ann, addItem(52, 1, 2, 1, "a"), addItem(51, 1, 2, 1, "a")}},
		"adds of several mails":                   {"xxx", []impl.Item{ann, addItem(51, 1, 2, 1, "a"), addItem(52, 1, 1, 1, "a")}},
		"one Uid in two boxes":                    {"xxxx", []impl.Item{ann, boxItem(51, 2, 1, "ann", "old"), addItem(52, 2, 3, 0, "b"), addItem(53, 1, 3, 0, "a")}},
		"a mail without its box":                  {"-", []impl.Item{addItem(51, 1, 1, 0, "a")}},
		"a mail of another box":                   {"x-", []impl.Item{ann, addItem(51, 2, 1, 0, "a")}},
		"a mail that went":                        {"x-x", []impl.Item{ann, addItem(51, 1, 1, 0, "a"), goneItem(52, 1, 1)}},
		"a mail that went ahead of it":            {"xx-", []impl.Item{ann, goneItem(51, 1, 1), addItem(52, 1, 1, 0, "a")}},
		"several adds of a mail that went":        {"x--x", []impl.Item{ann, addItem(51, 1, 1, 0, "a"), addItem(53, 1, 1, 0, "a"), goneItem(52, 1, 1)}},
		"a flag":                                  {"xxx", []impl.Item{ann, addItem(51, 1, 1, 0, "a"), flagItem(52, 1, 1, 1)}},
		"a flag that turns nothing":               {"xxx", []impl.Item{ann, addItem(51, 1, 1, 3, "a"), flagItem(52, 1, 1, 3)}},
		"a flag of a lesser Seq than its mail":    {"xxx", []impl.Item{ann, flagItem(51, 1, 1, 1), addItem(52, 1, 1, 0, "a")}},
		"several flags of one mail":               {"xx-x-", []impl.Item{ann, addItem(51, 1, 1, 7, "a"), flagItem(52, 1, 1, 1), flagItem(54, 1, 1, 2), flagItem(53, 1, 1, 4)}},
		"a flag without its mail":                 {"x-", []impl.Item{ann, flagItem(51, 1, 1, 1)}},
		"a flag of another mail":                  {"xx-", []impl.Item{ann, addItem(51, 1, 1, 7, "a"), flagItem(52, 1, 2, 1)}},
		"a flag of a mail of another box":         {"xx-", []impl.Item{ann, addItem(51, 1, 1, 7, "a"), flagItem(52, 2, 1, 1)}},
		"a flag of a mail that went":              {"x--x", []impl.Item{ann, addItem(51, 1, 1, 7, "a"), flagItem(52, 1, 1, 1), goneItem(53, 1, 1)}},
		"a flag without its box":                  {"--", []impl.Item{flagItem(51, 1, 1, 1), addItem(52, 1, 1, 0, "a")}},
		"several gones of one mail":               {"x--x-", []impl.Item{ann, addItem(51, 1, 1, 0, "a"), goneItem(52, 1, 1), goneItem(54, 1, 1), goneItem(53, 1, 1)}},
		"several gones without an add":            {"x---", []impl.Item{ann, goneItem(52, 1, 1), goneItem(54, 1, 1), goneItem(53, 1, 1)}},
		"a gone without an add":                   {"x-", []impl.Item{ann, goneItem(52, 1, 7)}},
		"a gone with an add of another mail":      {"x-x", []impl.Item{ann, goneItem(52, 1, 7), addItem(53, 1, 6, 0, "a")}},
		"a gone with an add of another box":       {"x-x-", []impl.Item{ann, goneItem(52, 1, 7), boxItem(54, 3, 1, "bob", "b"), addItem(53, 2, 7, 0, "a")}},
		"a gone with a flag of its mail":          {"x--", []impl.Item{ann, goneItem(52, 1, 7), flagItem(53, 1, 7, 0)}},
		"a gone whose box was dropped":            {"---x", []impl.Item{ann, addItem(51, 1, 1, 0, "a"), goneItem(52, 1, 1), dropItem(53, 1)}},
		"a gone whose box was never told":         {"--", []impl.Item{addItem(51, 1, 1, 0, "a"), goneItem(52, 1, 1)}},
		"a box whose mails all went":              {"x-x-x", []impl.Item{ann, addItem(51, 1, 1, 0, "a"), goneItem(52, 1, 1), addItem(53, 1, 2, 0, "b"), goneItem(54, 1, 2)}},
		"a box whose mails all went with flags":   {"x-x--x-", []impl.Item{ann, addItem(51, 1, 1, 0, "a"), goneItem(52, 1, 1), flagItem(55, 1, 2, 1), addItem(53, 1, 2, 0, "b"), goneItem(54, 1, 2), flagItem(56, 1, 1, 7)}},
		"a box whose mails all went, adds let go": {"x--", []impl.Item{ann, goneItem(52, 1, 1), goneItem(54, 1, 2)}},
		"a box that lies twice":                   {"x-", []impl.Item{ann, ann}},
		"a mail that lies three times":            {"xx--", []impl.Item{ann, addItem(51, 1, 1, 0, "a"), addItem(51, 1, 1, 0, "a"), addItem(51, 1, 1, 0, "a")}},
		"the later one of two lies twice":         {"x-x-", []impl.Item{ann, addItem(51, 1, 1, 0, "a"), addItem(52, 1, 1, 0, "b"), addItem(52, 1, 1, 0, "b")}},
		"the earlier one of two lies twice":       {"x-x-", []impl.Item{ann, addItem(51, 1, 1, 0, "a"), addItem(52, 1, 1, 0, "b"), addItem(51, 1, 1, 0, "a")}},
		"a flag that lies twice":                  {"xxx-", []impl.Item{ann, flagItem(52, 1, 1, 1), addItem(51, 1, 1, 0, "a"), flagItem(52, 1, 1, 1)}},
		"a gone that lies twice":                  {"xx--", []impl.Item{ann, goneItem(52, 1, 1), addItem(51, 1, 1, 0, "a"), goneItem(52, 1, 1)}},
		"a drop that lies twice":                  {"-x-", []impl.Item{ann, dropItem(52, 1), dropItem(52, 1)}},
		"a drop that lies twice, alone":           {"--", []impl.Item{dropItem(52, 1), dropItem(52, 1)}},
		"all lies twice":                          {"xx-xxx------", slices.Concat(plainItems(), plainItems())},
		"Seqs at their limits":                    {"-x-x-x", []impl.Item{boxItem(1, 1, 1, "ann", "a"), boxItem(impl.MaxNumber, 1, 1, "ann", "a"), addItem(2, 1, 1, 0, "a"), addItem(impl.MaxNumber-1, 1, 1, 0, "b"), flagItem(3, 1, 1, 1), flagItem(impl.MaxNumber-2, 1, 1, 0)}},
		"all at its greatest":                     {"xx-x", []impl.Item{boxItem(5, 9999, 10000, "zzzzzzzz", "zzzzzzzz"), addItem(6, 9999, 9999, 7, strings.Repeat("\xff", impl.MaxText9)), goneItem(7, 9999, 9998), flagItem(8, 9999, 9999, 7)}},
	}
}

type needCase struct {
	marks string
	list  []impl.Item
}

func TestNeeded(t *testing.T) {
	for what, c := range needCases() {
		needs(t, what, c.list, flagsOf(c.marks))
		asSaid(t, what, c.list)
	}
}

// Which is needed does not hang on where it lies.
func TestNeededInAnyOrder(t *testing.T) {
	for what, c := range needCases() {
		seqs := map[int]bool{}
		for i, x := range c.list {
			if flagsOf(c.marks)[i] {
				seqs[x.Seq] = true
			}
		}
		d := drawing(len(c.list))
		for range 20 {
			list, found := d.shuffled(c.list), map[int]bool{}
			for i, needed := range impl.NeededAll(list) {
				if x := list[i]; needed && (!seqs[x.Seq] || found[x.Seq]) {
					t.Errorf("%s: of %+v the one at %d is needed", what, list, i)
				} else if needed {
					found[x.Seq] = true
				}
			}
			if len(found) != len(seqs) {
				t.Errorf("%s: of %+v %d are needed, not %d", what, list, len(found), len(seqs))
			}
		}
	}
}

func TestWithout(t *testing.T) {
	list := plainItems()
	for _, c := range []struct {
		drop []bool
		want []impl.Item
	}{
		{nil, list},
		{[]bool{}, list},
		{[]bool{false}, list},
		{[]bool{true}, list[1:]},
		{[]bool{false, true}, slices.Concat(list[:1], list[2:])},
		{flagsOf("-x-x-x"), []impl.Item{list[0], list[2], list[4]}},
		{flagsOf("x-x-x-"), []impl.Item{list[1], list[3], list[5]}},
		{flagsOf("-----x"), list[:5]},
		{flagsOf("xxxxxx"), nil},
		{flagsOf("xxxxx"), list[5:]},
		{flagsOf("------x"), list},
		{flagsOf("------xxxxxxxx"), list},
		{flagsOf("xxxxxxxx"), nil},
		{allSo(1000), nil},
	} {
		if got := impl.Without(list, c.drop); !slices.Equal(got, c.want) {
			t.Errorf("Without %s is %+v, not %+v", marksOf(c.drop), got, c.want)
		}
	}
	twice := slices.Concat(list[:2], list[:2])
	if got := impl.Without(twice, flagsOf("x--x")); !slices.Equal(got, []impl.Item{list[1], list[0]}) {
		t.Errorf("of items that lie twice the wrong ones are left: %+v", got)
	}
	for _, drop := range [][]bool{nil, {}, {true}, allSo(300)} {
		if len(impl.Without(nil, drop)) > 0 || len(impl.Without([]impl.Item{}, drop)) > 0 {
			t.Errorf("of no items some are left")
		}
	}
}

// Without does not ask whether a list is right.
func TestWithoutOfWrongLists(t *testing.T) {
	for what, list := range wrongLists() {
		d := drawing(len(list))
		for range 5 {
			drop := d.drop(d.below(len(list) + 3))
			if got, want := impl.Without(list, drop), withoutAsSaid(list, drop); !slices.Equal(got, want) {
				t.Errorf("%s: Without is %+v, not %+v", what, got, want)
			}
		}
	}
}

func TestNextsOf(t *testing.T) {
	ann, old := boxItem(50, 1, 1, "ann", "inbox"), boxItem(51, 2, 3, "bob", "old")
	rec := func(valid, next int, user, name string) impl.Rec { return boxItem(0, valid, next, user, name).Rec }
	two := []impl.Item{old, addItem(52, 2, 5, 0, "b"), ann, addItem(53, 1, 1, 0, "a"), goneItem(54, 1, 4), addItem(55, 2, 4, 1, "c")}
	for _, c := range []struct {
		what string
		drop string
		list []impl.Item
		want []impl.Rec
	}{
		{"no items", "xxx", nil, nil},
		{"nothing goes", "", two, nil},
		{"nothing goes by a false of each", "------", two, nil},
		{"past the end", "------xxx", two, nil},
		{"one mail's Next", "-x----", two, []impl.Rec{rec(2, 6, "bob", "old")}},
		{"both Nexts", "-x--x-", two, []impl.Rec{rec(1, 5, "ann", "inbox"), rec(2, 6, "bob", "old")}},
		{"a gone mail's Next", "----x-", two, []impl.Rec{rec(1, 5, "ann", "inbox")}},
		{"mails below Next", "---x-x", two, nil},
		{"a box", "--x---", two, []impl.Rec{rec(1, 5, "ann", "inbox")}},
		{"the other box", "x-----", two, []impl.Rec{rec(2, 6, "bob", "old")}},
		{"both boxes", "x-x---", two, []impl.Rec{rec(1, 5, "ann", "inbox"), rec(2, 6, "bob", "old")}},
		{"all", "xxxxxx", two, []impl.Rec{rec(1, 5, "ann", "inbox"), rec(2, 6, "bob", "old")}},
		{"a box of Next 1", "x", []impl.Item{ann}, []impl.Rec{rec(1, 1, "ann", "inbox")}},
		{"a box that lies twice, the first one", "x-", []impl.Item{ann, ann}, nil},
		{"a box that lies twice, the second one", "-x", []impl.Item{ann, ann}, nil},
		{"a box that lies twice, both", "xx", []impl.Item{ann, ann}, []impl.Rec{rec(1, 1, "ann", "inbox")}},
		{"the greatest Next of several", "-x", []impl.Item{ann, boxItem(40, 1, 7, "bob", "old")}, []impl.Rec{rec(1, 7, "bob", "old")}},
		{"a lesser Next of several", "x-", []impl.Item{ann, boxItem(40, 1, 7, "bob", "old")}, nil},
		{"the greatest Seq of one Next: the box has another name", "-x", []impl.Item{ann, boxItem(60, 1, 1, "bob", "old")}, nil},
		{"the greatest Next of boxes, a mail above it", "-x-", []impl.Item{ann, boxItem(60, 1, 5, "bob", "old"), addItem(61, 1, 7, 0, "")}, nil},
		{"that and the mail", "-xx", []impl.Item{ann, boxItem(60, 1, 5, "bob", "old"), addItem(61, 1, 7, 0, "")}, []impl.Rec{rec(1, 8, "bob", "old")}},
		{"a mail of MaxValid", "-x", []impl.Item{ann, addItem(61, 1, impl.MaxValid, 7, "a")}, []impl.Rec{rec(1, impl.MaxValid+1, "ann", "inbox")}},
		{"a flag", "--x", []impl.Item{ann, addItem(61, 1, 1, 7, "a"), flagItem(62, 1, 9, 1)}, nil},
		{"a box whose mails all went", "-xx", []impl.Item{ann, addItem(61, 1, 6, 7, "a"), goneItem(62, 1, 6)}, []impl.Rec{rec(1, 7, "ann", "inbox")}},
		{"that without its adds", "-x-", []impl.Item{ann, addItem(61, 1, 6, 7, "a"), goneItem(62, 1, 6)}, nil},
		{"that without its gones", "--x", []impl.Item{ann, addItem(61, 1, 6, 7, "a"), goneItem(62, 1, 6)}, nil},
		{"a drop: the box was not there", "-x", []impl.Item{ann, dropItem(61, 1)}, nil},
		{"a box that was dropped", "x-", []impl.Item{ann, dropItem(61, 1)}, nil},
		{"all of a box that was dropped", "xx", []impl.Item{ann, dropItem(61, 1)}, nil},
		{"mails without a box", "xx", []impl.Item{addItem(61, 1, 6, 7, "a"), goneItem(62, 1, 6)}, nil},
	} {
		if got := impl.NextsOf(c.list, flagsOf(c.drop)); !slices.Equal(got, c.want) {
			t.Errorf("%s: NextsOf is %+v, not %+v", c.what, got, c.want)
		}
		shrinks(t, c.what, c.list, flagsOf(c.drop), freeSeq(c.list))
	}
}

func TestShrunk(t *testing.T) {
	ann := boxItem(50, 1, 1, "ann", "inbox")
	plain, many := plainItems(), manyItems()
	went := []impl.Item{ann, addItem(51, 1, 1, 0, "a"), goneItem(52, 1, 1), goneItem(53, 1, 7)}
	for _, c := range []struct {
		what string
		drop string
		list []impl.Item
		want []impl.Item
	}{
		{"no items", "xxx", nil, nil},
		{"nothing goes", "", plain, plain},
		{"a false of each", "------", plain, plain},
		{"past the end", "------xx", plain, plain},
		{"what is needed stays", "xx-xxx", plain, plain},
		{"what is not goes", "--x---", plain, slices.Concat(plain[:2], plain[3:])},
		{"all that can", "xxxxxxxx", plain, slices.Concat(plain[:2], plain[3:])},
		{"a shorter drop", "xxx", plain, slices.Concat(plain[:2], plain[3:])},
		{"a drop that is too short", "xx", plain, plain},
		{"of several boxes", "xxxxxxxxxxxxxx", many, slices.Concat(many[:3], many[5:7], many[8:10], many[11:])},
		{"of several boxes some", "---x---x------", many, slices.Concat(many[:3], many[4:7], many[8:])},
		{"a gone without an add", "---x", went, append(slices.Clone(went[:3]), boxItem(900, 1, 8, "ann", "inbox"))},
		{"a gone without an add, and an add that went", "xxxx", went, []impl.Item{ann, went[2], boxItem(900, 1, 8, "ann", "inbox")}},
		{"gones of two boxes", "xxxx", []impl.Item{goneItem(60, 2, 9), boxItem(61, 2, 3, "bob", "b"), goneItem(62, 1, 4), ann}, []impl.Item{boxItem(61, 2, 3, "bob", "b"), ann, boxItem(900, 1, 5, "ann", "inbox"), boxItem(901, 2, 10, "bob", "b")}},
		{"gones of two boxes, of which one goes", "x---", []impl.Item{goneItem(60, 2, 9), boxItem(61, 2, 3, "bob", "b"), goneItem(62, 1, 4), ann}, []impl.Item{boxItem(61, 2, 3, "bob", "b"), goneItem(62, 1, 4), ann, boxItem(900, 2, 10, "bob", "b")}},
		{"a gone of MaxValid", "xx", []impl.Item{ann, goneItem(62, 1, impl.MaxValid)}, []impl.Item{ann, boxItem(900, 1, impl.MaxValid+1, "ann", "inbox")}},
		{"older boxes", "xxx", []impl.Item{boxItem(40, 1, 1, "cid", "c"), ann, boxItem(30, 1, 1, "bob", "b")}, []impl.Item{ann}},
		{"an item that lies twice", "xx", []impl.Item{ann, ann}, []impl.Item{ann}},
		{"an item that lies twice, the first one", "x-", []impl.Item{ann, ann}, []impl.Item{ann, ann}},
		{"a drop alone", "x", []impl.Item{dropItem(4, 1)}, nil},
		{"a box that was dropped", "xx", []impl.Item{ann, dropItem(4, 1)}, []impl.Item{dropItem(4, 1)}},
		{"mails without a box", "xx", []impl.Item{addItem(61, 1, 6, 7, "a"), goneItem(62, 1, 6)}, nil},
	} {
		if got := impl.Shrunk(c.list, flagsOf(c.drop), 900); !slices.Equal(got, c.want) {
			t.Errorf("%s: Shrunk is %+v, not %+v", c.what, got, c.want)
		}
		shrinks(t, c.what, c.list, flagsOf(c.drop), freeSeq(c.list))
	}
}

// Seqs go on from any number, right or not.
func TestShrunkWithAnySeq(t *testing.T) {
	list := []impl.Item{goneItem(60, 2, 9), boxItem(61, 2, 3, "bob", "b"), goneItem(62, 1, 4), boxItem(63, 1, 1, "ann", "a")}
	for _, seq := range append([]int{1, 5, 61, impl.MaxNumber - 1, impl.MaxNumber, math.MaxInt - 1}, wrongFrameNumbers...) {
		shrinks(t, fmt.Sprint("from ", seq, " on"), list, allSo(4), seq)
		got := impl.Shrunk(list, allSo(4), seq)
		if len(got) != 4 || got[2].Seq != seq || got[3].Seq != seq+1 {
			t.Errorf("from %d on: %+v", seq, got)
		}
		if other := impl.Shrunk(plainItems(), allSo(6), seq); len(other) != 5 {
			t.Errorf("from %d on, where nothing is put behind: %+v", seq, other)
		}
	}
}

// A box whose mails all went is one record at last, which has its Next.
func TestABoxWhoseMailsAllWentKeepsItsNext(t *testing.T) {
	list := []impl.Item{boxItem(1, 1, 1, "ann", "inbox"), addItem(2, 1, 1, 0, "a"), addItem(3, 1, 2, 0, "b"), goneItem(4, 1, 2), goneItem(5, 1, 1)}
	for round, want := range [][]impl.Item{
		{list[0], list[3], list[4]},
		{list[0], boxItem(102, 1, 3, "ann", "inbox")},
		{boxItem(102, 1, 3, "ann", "inbox")},
		{boxItem(102, 1, 3, "ann", "inbox")},
	} {
		list = impl.Shrunk(list, allSo(len(list)), 101+round)
		if !slices.Equal(list, want) {
			t.Fatalf("round %d: Shrunk is %+v, not %+v", round, list, want)
		}
		if s := impl.StateOf(list); !sameTold(s, stateWith(impl.Box{Valid: 1, User: "ann", Name: "inbox", Next: 3})) {
			t.Fatalf("round %d: told is %+v", round, s)
		}
	}
}

// In every list of three out of these, whatever goes of it.
func TestNeedsOfAllShortLists(t *testing.T) {
	recs := []impl.Rec{
		boxItem(0, 1, 1, "ann", "a").Rec, boxItem(0, 1, 3, "ann", "b").Rec, boxItem(0, 2, 1, "bob", "a").Rec, dropItem(0, 1).Rec,
		addItem(0, 1, 1, 0, "x").Rec, addItem(0, 1, 2, 1, "y").Rec, flagItem(0, 1, 1, 2).Rec, goneItem(0, 1, 1).Rec, goneItem(0, 1, 2).Rec,
	}
	drops := dropsOf(3)
	for i := range len(recs) * len(recs) * len(recs) {
		a, b, c := recs[i%len(recs)], recs[i/len(recs)%len(recs)], recs[i/len(recs)/len(recs)]
		for _, seqs := range [][3]int{{1, 2, 3}, {3, 2, 1}, {2, 3, 1}} {
			list := []impl.Item{{Seq: seqs[0], Rec: a}, {Seq: seqs[1], Rec: b}, {Seq: seqs[2], Rec: c}}
			needs(t, "three", list, allNeededAsSaid(list))
			for _, drop := range drops {
				shrinks(t, "three", list, drop, 4)
			}
		}
	}
}

func TestNeedsOfDrawnListsAreWhatTheDocumentSays(t *testing.T) {
	d := drawing(8)
	for range 400 {
		list := d.twice(d.items(1 + d.below(50)))
		needs(t, "drawn", list, allNeededAsSaid(list))
		for range 3 {
			drop := d.drop(d.below(len(list) + 3))
			shrinks(t, "drawn", list, drop, freeSeq(list))
		}
		if t.Failed() {
			return
		}
	}
}

// What is not needed goes part by part, and nothing else is told. At last
// there are just those that are needed, and all of them of boxes that are
// there.
func TestWhatIsShrunkIsShrunkAgain(t *testing.T) {
	d := drawing(88)
	for range 300 {
		list := d.twice(d.items(1 + d.below(80)))
		told := stateAsSaid(list)
		for round := range 12 {
			drop := d.drop(len(list))
			if round >= 6 {
				drop = allSo(len(list))
			}
			before := list
			list = impl.Shrunk(list, drop, freeSeq(list))
			if len(list) > len(before) || !impl.ItemsOk(list) || !sameTold(impl.StateOf(list), told) {
				t.Fatalf("round %d: %+v Shrunk by %s is %+v, which tells %+v, not %+v", round, before, marksOf(drop), list, impl.StateOf(list), told)
			}
		}
		for i, needed := range impl.NeededAll(list) {
			if _, there := boxTold(list, list[i].Rec.Valid); !needed || !there || list[i].Rec.Kind == impl.RecGone {
				t.Fatalf("at last there is %+v, in %+v", list[i], list)
			}
		}
	}
}

// All that is not needed goes at once: but for Nexts the same is told, and
// with NextsOf these are, too.
func TestWithoutWhatIsNotNeededTheSameIsTold(t *testing.T) {
	d := drawing(888)
	for range 500 {
		list := d.twice(d.items(1 + d.below(60)))
		drop := []bool{}
		for _, needed := range impl.NeededAll(list) {
			drop = append(drop, !needed)
		}
		left, want := impl.Without(list, drop), stateAsSaid(list)
		got := impl.StateOf(left)
		if len(got.Boxes) != len(want.Boxes) {
			t.Fatalf("of %+v is told %+v, not %+v", left, got, want)
		}
		for i, b := range want.Boxes {
			b.Next = got.Boxes[i].Next
			if !sameTold(stateWith(b), stateWith(got.Boxes[i])) {
				t.Fatalf("of %+v is told %+v, not %+v", left, got.Boxes[i], b)
			}
		}
		for i, r := range impl.NextsOf(list, drop) {
			left = append(left, impl.Item{Seq: freeSeq(list) + i, Rec: r})
		}
		if !sameTold(impl.StateOf(left), want) {
			t.Fatalf("with Nexts of %+v is told %+v, not %+v", left, impl.StateOf(left), want)
		}
	}
}

func TestNeedsOfAsManyItemsAsThereMayBe(t *testing.T) {
	d := drawing(200)
	list := []impl.Item{boxItem(1, 1, 1, "ann", "inbox")}
	for uid := 1; len(list) < 200; uid++ {
		list = append(list, addItem(1000+uid, 1, uid, uid%8, fmt.Sprint("mail ", uid)))
	}
	needs(t, "200 mails and a box", list, allSo(200))
	shrinks(t, "200 that are all needed", list, allSo(200), freeSeq(list))
	gones := []impl.Item{}
	for valid := 1; valid <= 100; valid++ {
		gones = append(gones, goneItem(500+valid, valid, 7), boxItem(valid, valid, 2, "ann", "inbox"))
	}
	needs(t, "100 boxes, and as many gones", gones, flagsOf(strings.Repeat("-x", 100)))
	got := shrinks(t, "100 Nexts", gones, allSo(200), freeSeq(gones))
	if len(got) != 200 || got[100] != boxItem(601, 1, 8, "ann", "inbox") || got[199] != boxItem(700, 100, 8, "ann", "inbox") {
		t.Errorf("100 Nexts are not told behind 100 boxes: %+v", got)
	}
	same := slices.Repeat([]impl.Item{goneItem(3, 1, 2)}, 200)
	needs(t, "one 200 times", same, make([]bool, 200))
	same[99] = addItem(4, 1, 2, 0, "a")
	same[150] = boxItem(5, 1, 1, "ann", "a")
	needs(t, "one 198 times", same, append(flagsOf("x"+strings.Repeat("-", 149)+"x"), make([]bool, 49)...))
	for range 5 {
		drawn := d.items(200)
		needs(t, "200 drawn", drawn, allNeededAsSaid(drawn))
		shrinks(t, "200 drawn", drawn, d.drop(200), freeSeq(drawn))
		shrinks(t, "200 drawn, all", drawn, allSo(200), freeSeq(drawn))
	}
}

// wrongLists are not ItemsOk, though all but one thing in them would be needed.
func wrongLists() map[string][]impl.Item {
	out := map[string][]impl.Item{
		"201 items":                 manySeqs(201),
		"201 items, a box first":    append([]impl.Item{boxItem(900, 1, 1, "ann", "inbox")}, manySeqs(200)...),
		"one 201 times":             slices.Repeat([]impl.Item{boxItem(5, 1, 1, "ann", "inbox")}, 201),
		"300 items":                 slices.Repeat(plainItems(), 50),
		"an item of nothing":        {{}},
		"nothing behind others":     append(plainItems(), impl.Item{}),
		"two of one Seq":            append(plainItems(), addItem(6, 1, 9, 0, "x")),
		"two boxes of one Seq":      {boxItem(6, 1, 1, "ann", "inbox"), boxItem(6, 2, 1, "ann", "inbox")},
		"two Nexts of one Seq":      {boxItem(6, 1, 1, "ann", "inbox"), boxItem(6, 1, 2, "ann", "inbox")},
		"two Kinds of one Seq":      {boxItem(5, 1, 1, "ann", "inbox"), addItem(6, 1, 1, 0, ""), flagItem(6, 1, 1, 0)},
		"two Seqs alike, one twice": {boxItem(5, 1, 1, "ann", "inbox"), dropItem(6, 2), dropItem(6, 2), dropItem(6, 3)},
	}
	for _, seq := range wrongFrameNumbers {
		list := plainItems()
		list[2].Seq = seq
		out[fmt.Sprint("a Seq of ", seq)] = list
		out[fmt.Sprint("a Seq of ", seq, " alone")] = []impl.Item{boxItem(seq, 1, 1, "ann", "inbox")}
	}
	for i, r := range wrongRecs() {
		out[fmt.Sprintf("wrong record %d alone: %+v", i, r.Kind)] = []impl.Item{{Seq: 99, Rec: r}}
		out[fmt.Sprintf("wrong record %d behind: %+v", i, r.Kind)] = append(plainItems(), impl.Item{Seq: 99, Rec: r})
		out[fmt.Sprintf("wrong record %d ahead: %+v", i, r.Kind)] = append([]impl.Item{{Seq: 99, Rec: r}}, plainItems()...)
	}
	return out
}

// Nothing is needed in a list that is not right: of it goes what drop says,
// and nothing is put behind.
func TestNeedsOfWrongLists(t *testing.T) {
	for what, list := range wrongLists() {
		if itemsRightAsSaid(list) {
			t.Errorf("%s: right", what)
		}
		needs(t, what, list, make([]bool, len(list)))
		d := drawing(len(list))
		for _, drop := range [][]bool{nil, allSo(len(list)), allSo(len(list) + 2), d.drop(len(list)), {true}, {false, true}} {
			if got := impl.NextsOf(list, drop); len(got) > 0 {
				t.Errorf("%s: NextsOf is %+v", what, got)
			}
			if got, want := impl.Shrunk(list, drop, 700), withoutAsSaid(list, drop); !slices.Equal(got, want) {
				t.Errorf("%s: Shrunk is %+v, not %+v", what, got, want)
			}
		}
	}
	// What is left may be right, where the list is not.
	ann := boxItem(5, 1, 1, "ann", "inbox")
	list := []impl.Item{ann, goneItem(6, 1, 4), dropItem(0, 2)}
	if got := impl.NextsOf(list, flagsOf("-xx")); len(got) > 0 {
		t.Errorf("of a wrong list with a right rest NextsOf is %+v", got)
	}
	if got := impl.Shrunk(list, flagsOf("-xx"), 700); !slices.Equal(got, []impl.Item{ann}) {
		t.Errorf("of a wrong list with a right rest Shrunk is %+v", got)
	}
}

func textsOfRecs(list []impl.Rec) []string {
	out := []string{}
	for _, r := range list {
		out = append(out, r.User, r.Name, r.Text)
	}
	return out
}

func recsOf(list []impl.Item) []impl.Rec {
	out := []impl.Rec{}
	for _, x := range list {
		out = append(out, x.Rec)
	}
	return out
}

// scribbleOver writes into all of a list, and into its spare room.
func scribbleOver[T any](list []T, with T) {
	for i := range list[:cap(list)] {
		list[:cap(list)][i] = with
	}
}

// roomyDrop has so behind its end.
func roomyDrop(drop []bool) []bool {
	out := append(slices.Clone(drop), true, true, true)
	return out[: len(drop) : len(drop)+3]
}

func TestNoListIsWrittenOnForWhatIsNeeded(t *testing.T) {
	lists := map[string][]impl.Item{"one box": plainItems(), "several": manyItems(), "none": {},
		"Nexts":    {boxItem(1, 1, 1, "ann", "inbox"), goneItem(2, 1, 4), boxItem(3, 2, 1, "bob", "old"), goneItem(4, 2, 5)},
		"wrong":    append(plainItems(), addItem(6, 1, 1, 0, "another one of that Seq")),
		"wrong, 2": append(manyItems(), impl.Item{Seq: 0, Rec: impl.Rec{Kind: 9, User: "U", Name: "N", Text: "T"}})}
	for what, plain := range lists {
		for _, given := range [][]bool{{}, {true}, allSo(len(plain)), make([]bool, len(plain)), {false, true, true}, allSo(len(plain) + 4)} {
			list, drop := roomyItems(plain), roomyDrop(given)
			before := slices.Clone(list[:len(list)+2])
			texts := textsOfRecs(recsOf(before))
			for range 2 {
				needed, left, nexts, shrunk := impl.NeededAll(list), impl.Without(list, drop), impl.NextsOf(list, drop), impl.Shrunk(list, drop, 900)
				impl.Needed(list, 0)
				if !slices.Equal(needed, allNeededAsSaid(plain)) || !slices.Equal(left, withoutAsSaid(plain, given)) || !slices.Equal(nexts, nextsAsSaid(plain, given)) || !slices.Equal(shrunk, shrunkAsSaid(plain, given, 900)) {
					t.Errorf("%s: with room behind lists something else is told", what)
				}
				texts = slices.Concat(texts, textsOfRecs(recsOf(left)), textsOfRecs(nexts), textsOfRecs(recsOf(shrunk)))
				scribbleOver(needed, true)
				scribbleOver(left, dropItem(66, 66))
				scribbleOver(nexts, dropItem(67, 67).Rec)
				scribbleOver(shrunk, dropItem(68, 68))
			}
			noneShared(t, what, texts)
			if !slices.Equal(list[:len(list)+2], before) || !slices.Equal(list, plain) {
				t.Errorf("%s: the list is written on", what)
			}
			if !slices.Equal(drop[:len(drop)+3], append(slices.Clone(given), true, true, true)) {
				t.Errorf("%s: the drop is written on", what)
			}
		}
	}
}
