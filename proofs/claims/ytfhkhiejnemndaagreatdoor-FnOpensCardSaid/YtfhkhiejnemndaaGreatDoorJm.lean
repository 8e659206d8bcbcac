/- Texts of our own, joined. -/
import Derived.Test.YtfhkhiejnemndaaGreatDoorJi
import Derived.Test.YtfhkhiejnemndaaGreatDoorJl
import Derived.Deep.RegionLaw
import Derived.Lib.Hide
import Derived.Laws.StructEq
import Derived.Test.YtfhkhiejnemndaaGreatDoorJa
/- A segment as it is on a disk: its items, and while they are gathered. -/
namespace Go.Proofs.YtfhkhiejnemndaaGreatDoor
open Go.RowKit
set_option maxRecDepth 100000
set_option maxHeartbeats 8000000
def fiO (f : Fr) : Option Itm := if f.ok then (rrO f.body).map (fun r => (f.seq, r)) else none
theorem fiT_some' {f : Fr} {x : Itm} (h : fiO f = some x) : fiT f = .tuple #[itV x.1 x.2, .bool true] := by
  unfold fiO at h; by_cases c : f.ok
  · rw [if_pos c] at h
    cases hr : rrO f.body with
    | none => rw [hr] at h; cases h
    | some r => rw [hr] at h; cases h; exact fiT_some c hr
  · rw [if_neg c] at h; cases h
theorem fiT_none' {f : Fr} (h : fiO f = none) : fiT f = .tuple #[itV 0 Rc.nil, .bool false] := by
  unfold fiO at h; by_cases c : f.ok
  · rw [if_pos c] at h
    cases hr : rrO f.body with
    | none => exact fiT_none hr
    | some r => rw [hr] at h; cases h
  · exact fiT_out c
theorem sfL_ok (t : ByteArray) : ∀ f ∈ sfL t, f.ok := by
  intro f hf; unfold sfL at hf
  split at hf
  · cases hf
  · have h1 := List.mem_of_mem_drop hf
    unfold scanL scan at h1; obtain ⟨x, hx, rfl⟩ := List.mem_map.1 h1; exact ((sq_all (four := fourOf) (s := t) (g := sgG t) (k := 0) (Nat.zero_le _)).1 x hx).1
theorem Rows'.framesG {w : World} {v : Value} {l : List Fr} (h : Rows' frE w v l) : ∃ (ad : Option Addr) (cap : Nat), v = .slice ad l.length cap ∧ ∀ X, Below w.heap.size w X → ∀ (i : Nat) (f : Fr), l[i]? = some f → ∃ g off : Nat, ad = some ⟨g, off, none⟩ ∧
    X.cell? ⟨g, off + i * 3, none⟩ = some (.int .i64 f.gen) ∧ X.cell? ⟨g, off + i * 3 + 1, none⟩ = some (.int .i64 f.seq) ∧ X.cell? ⟨g, off + i * 3 + 2, none⟩ = some (.string f.body) := by
  rcases h.ways with ⟨rfl, a, c, rfl⟩ | ⟨hne, g, off, c, rfl, hc, hg, hcl⟩
  · exact ⟨a, c, rfl, fun X _ i b hi => by cases hi⟩
  · refine ⟨_, c, rfl, fun X hb i f hi => ⟨g, off, rfl, ?_, ?_, ?_⟩⟩
    · exact (hb.cell (p := ⟨g, off + i * 3, none⟩) hg).trans (hcl i f hi 0 _ rfl)
    · exact (hb.cell (p := ⟨g, off + i * 3 + 1, none⟩) hg).trans (hcl i f hi 1 _ rfl)
    · exact (hb.cell (p := ⟨g, off + i * 3 + 2, none⟩) hg).trans (hcl i f hi 2 _ rfl)
theorem Box.fourG {w : World} {b : Nat} {u0 u1 u2 u3 : Value} {t : TypeId} (h : Box w b #[u0, u1, u2, u3] t) : w.cell? ⟨b, 0, none⟩ = some u0 ∧ w.cell? ⟨b, 1, none⟩ = some u1 ∧ w.cell? ⟨b, 2, none⟩ = some u2 ∧ w.cell? ⟨b, 3, none⟩ = some u3 ∧ w.frozen? ⟨b, 0, none⟩ = false ∧ w.frozen? ⟨b, 1, none⟩ = false ∧ w.frozen? ⟨b, 2, none⟩ = false ∧ w.frozen? ⟨b, 3, none⟩ = false :=
  ⟨h.cell 0 _ rfl, h.cell 1 _ rfl, h.cell 2 _ rfl, h.cell 3 _ rfl, h.loose 0, h.loose 1, h.loose 2, h.loose 3⟩
theorem Box.set4G {w : World} {b : Nat} {u0 u1 u2 u3 : Value} {t : TypeId} (h : Box w b #[u0, u1, u2, u3] t) (v0 v1 v2 v3 : Value) : Box ((((w.setCell ⟨b, 0, none⟩ v0).setCell ⟨b, 1, none⟩ v1).setCell ⟨b, 2, none⟩ v2).setCell ⟨b, 3, none⟩ v3) b #[v0, v1, v2, v3] t := (((h.set 0 v0).set 1 v1).set 2 v2).set 3 v3
theorem Box.nineG {w : World} {b : Nat} {u0 u1 u2 u3 u4 u5 u6 u7 u8 : Value} {t : TypeId} (h : Box w b #[u0, u1, u2, u3, u4, u5, u6, u7, u8] t) : w.cell? ⟨b, 0, none⟩ = some u0 ∧ w.cell? ⟨b, 1, none⟩ = some u1 ∧ w.cell? ⟨b, 2, none⟩ = some u2 ∧ w.cell? ⟨b, 3, none⟩ = some u3 ∧ w.cell? ⟨b, 4, none⟩ = some u4 ∧ w.cell? ⟨b, 5, none⟩ = some u5 ∧ w.cell? ⟨b, 6, none⟩ = some u6 ∧ w.cell? ⟨b, 7, none⟩ = some u7 ∧ w.cell? ⟨b, 8, none⟩ = some u8 :=
  ⟨h.cell 0 _ rfl, h.cell 1 _ rfl, h.cell 2 _ rfl, h.cell 3 _ rfl, h.cell 4 _ rfl, h.cell 5 _ rfl, h.cell 6 _ rfl, h.cell 7 _ rfl, h.cell 8 _ rfl⟩
structure SgL (w1 : World) (B : Nat) (tS : TypeId) (no gn en : Int) (x : World) (a : Option Addr) (cap : Nat) (l : List Itm) : Prop where
  seg : Box x w1.heap.size #[.int .i64 no, .int .i64 gn, .int .i64 en, .slice a l.length cap] tS
  its : RBuf itE B x x (.slice a l.length cap) l
  bel : Below w1.heap.size w1 x
  lt : w1.heap.size < B

/- What records tell: the model's choice of a record. -/
structure BsI (w : World) (g0 g1 : Nat) (x : Itm) (X : World) : Prop where
  res : Box X g0 #[.int .i64 0, .int .i64 0, .int .i64 0, .int .i64 0, .int .i64 0, .int .i64 0, .string ⟨#[]⟩, .string ⟨#[]⟩, .string ⟨#[]⟩] 44
  out : Box X g1 #[.int .i64 x.1, .int .i64 x.2.kind, .int .i64 x.2.valid, .int .i64 x.2.uid, .int .i64 x.2.next, .int .i64 x.2.flags, .string x.2.user, .string x.2.name, .string x.2.text] 44
  bel : Below w.heap.size w X
  l0 : w.heap.size ≤ g0
  l1 : w.heap.size ≤ g1
  n01 : g0 ≠ g1

/- Right items, plainly: as they are gone through. -/
def itOk (x : Itm) : Prop := (1 ≤ x.1 ∧ x.1 ≤ 1000000000) ∧ x.2.ok
def ItG (l : List Itm) (i : Nat) : Prop := (∀ (j : Nat) (x : Itm), l[j]? = some x → j < i → itOk x) ∧ ∀ (j k : Nat) (x y : Itm), l[j]? = some x → l[k]? = some y → j < k → k < i → x.1 = y.1 → x = y
noncomputable instance decItemsOk (l : List Itm) : Decidable (itemsOk l) := Classical.propDecidable _
theorem ItG.zero (l : List Itm) : ItG l 0 := ⟨fun _ _ _ h => by omega, fun _ _ _ _ _ _ _ h => by omega⟩
theorem ItG.next {l : List Itm} {i : Nat} {x : Itm} (h : ItG l i) (hx : l[i]? = some x) (hok : itOk x) (hd : ∀ (j : Nat) (y : Itm), l[j]? = some y → j < i → y.1 = x.1 → y = x) : ItG l (i + 1) := by
  refine ⟨fun j y hy hj => ?_, fun j k y z hy hz hjk hk e => ?_⟩
  · by_cases e : j = i
    · subst e; rw [hx] at hy; cases hy; exact hok
    · exact h.1 j y hy (by omega)
  · by_cases e2 : k = i
    · subst e2; rw [hx] at hz; cases hz; exact hd j y hy hjk e
    · exact h.2 j k y z hy hz hjk (by omega) e
theorem ItG.done {l : List Itm} (h : ItG l l.length) : decide (itemsOk l) = decide (l.length ≤ 200) := by
  apply decide_eq_decide.2; constructor
  · exact fun c => c.2.2
  · intro hl
    refine ⟨fun x hx => ?_, fun x hx y hy e => ?_, hl⟩
    · obtain ⟨j, hj, rfl⟩ := List.getElem_of_mem hx
      exact h.1 j _ (List.getElem?_eq_getElem hj) hj
    · obtain ⟨j, hj, rfl⟩ := List.getElem_of_mem hx
      obtain ⟨k, hk, rfl⟩ := List.getElem_of_mem hy; rcases Nat.lt_trichotomy j k with c | c | c
      · exact h.2 j k _ _ (List.getElem?_eq_getElem hj) (List.getElem?_eq_getElem hk) c hk e
      · subst c; rfl
      · exact (h.2 k j _ _ (List.getElem?_eq_getElem hk) (List.getElem?_eq_getElem hj) c hj e.symm).symm
theorem items_bad {l : List Itm} {i : Nat} {x : Itm} (hx : l[i]? = some x) (h : ¬ itOk x) : decide (itemsOk l) = false :=
  decide_eq_false fun c => h (c.1 x (List.mem_of_getElem? hx))
theorem items_part {l : List Itm} {j i : Nat} {x y : Itm} (hx : l[j]? = some x) (hy : l[i]? = some y) (e : x.1 = y.1) (h : x ≠ y) : decide (itemsOk l) = false :=
  decide_eq_false fun c => h (c.2.1 x (List.mem_of_getElem? hx) y (List.mem_of_getElem? hy) e)

/- What records tell: the model's ItemsOk. -/
theorem ba_same (a b : ByteArray) : a.toList = b.toList ↔ a = b := by
  have h := ba_beq a b; constructor
  · intro e
    rw [beq_iff_eq.2 e] at h; exact of_decide_eq_true h.symm
  · intro e; rw [e]
def ItRow (w : World) (ad : Option Addr) (l : List Itm) : Prop := ∀ X, Below w.heap.size w X → ∀ i x, l[i]? = some x → ∃ g off, ad = some ⟨g, off, none⟩ ∧ X.cell? ⟨g, off + i * 9, none⟩ = some (.int .i64 x.1) ∧ X.cell? ⟨g, off + i * 9 + 1, none⟩ = some (.int .i64 x.2.kind) ∧ X.cell? ⟨g, off + i * 9 + 2, none⟩ = some (.int .i64 x.2.valid) ∧ X.cell? ⟨g, off + i * 9 + 3, none⟩ = some (.int .i64 x.2.uid) ∧ X.cell? ⟨g, off + i * 9 + 4, none⟩ = some (.int .i64 x.2.next) ∧ X.cell? ⟨g, off + i * 9 + 5, none⟩ = some (.int .i64 x.2.flags) ∧ X.cell? ⟨g, off + i * 9 + 6, none⟩ = some (.string x.2.user) ∧ X.cell? ⟨g, off + i * 9 + 7, none⟩ = some (.string x.2.name) ∧ X.cell? ⟨g, off + i * 9 + 8, none⟩ = some (.string x.2.text)
theorem Rows'.items {w : World} {v : Value} {l : List Itm} (h : Rows' itE w v l) : ∃ (ad : Option Addr) (cap : Nat), v = .slice ad l.length cap ∧ ItRow w ad l := by
  rcases h.ways with ⟨rfl, a, c, rfl⟩ | ⟨hne, g, off, c, rfl, hc, hg, hcl⟩
  · exact ⟨a, c, rfl, fun X _ i x hi => by cases hi⟩
  · exact ⟨_, c, rfl, fun X hb i x hi => ⟨g, off, rfl, it_cells hcl hg hb i x hi⟩⟩

/- Records and items: the helpers of the exact laws. -/

/- Lists of items that come in: how great they are, copies of them, and that two alike are alike; items marked. -/

/- The helpers of the exact laws over lists of items: each is marked, and the marks are held. -/
def markI (k : Nat) (j : Nat) : Itm := (((k + 9 * j : Nat) : Int), ⟨((k + 9 * j + 1 : Nat) : Int), ((k + 9 * j + 2 : Nat) : Int), ((k + 9 * j + 3 : Nat) : Int), ((k + 9 * j + 4 : Nat) : Int), ((k + 9 * j + 5 : Nat) : Int), mark (k + 9 * j + 6), mark (k + 9 * j + 7), mark (k + 9 * j + 8)⟩)
def marksI (k n : Nat) : List Itm := (List.range n).map (markI k)

/- The helpers of the exact laws over segments: two alike are alike. -/
def GRd (w : World) (v : Value) (bs : List Sg) : Prop := ∃ hs : List SgH, Rows' sgE w v hs ∧ hs.length = bs.length ∧
  ∀ (j : Nat) (h : SgH) (b : Sg), hs[j]? = some h → bs[j]? = some b → (h.no = b.no ∧ h.gen = b.gen ∧ h.ende = b.ende) ∧ Rows' itE w h.mv b.items
theorem SgO.rd {B : Nat} {w : World} {v : Value} {bs : List Sg} {hs : List SgH} (h : SgO B w v bs hs) : GRd w v bs :=
  ⟨hs, h.row.rows, h.len, fun j x b h1 h2 => ⟨(h.at' j x b h1 h2).1, (h.at' j x b h1 h2).2.rows⟩⟩
theorem GRd.later {w w' : World} {v : Value} {bs : List Sg} (h : GRd w v bs) (hb : Below w.heap.size w w') : GRd w' v bs := by
  obtain ⟨hs, h1, h2, h3⟩ := h; exact ⟨hs, h1.later hb, h2, fun j x b e1 e2 => ⟨(h3 j x b e1 e2).1, (h3 j x b e1 e2).2.later hb⟩⟩
theorem GRd.segs {w : World} {v : Value} {bs : List Sg} (h : GRd w v bs) : ∃ (ad : Option Addr) (cap : Nat), v = .slice ad bs.length cap ∧ ∀ X, Below w.heap.size w X → ∀ (i : Nat) (b : Sg), bs[i]? = some b → ∃ (g off : Nat) (a : Option Addr) (n c : Nat), ad = some ⟨g, off, none⟩ ∧
    X.cell? ⟨g, off + i * 4, none⟩ = some (.int .i64 b.no) ∧ X.cell? ⟨g, off + i * 4 + 1, none⟩ = some (.int .i64 b.gen) ∧ X.cell? ⟨g, off + i * 4 + 2, none⟩ = some (.int .i64 b.ende) ∧ X.cell? ⟨g, off + i * 4 + 3, none⟩ = some (.slice a n c) ∧ Rows' itE w (.slice a n c) b.items := by
  obtain ⟨hs, h1, h2, h3⟩ := h; rcases h1.ways with ⟨rfl, a, c, rfl⟩ | ⟨hne, g, off, c, rfl, hc, hg, hcl⟩
  · have : bs = [] := by rw [← List.length_eq_zero_iff, ← h2]; rfl
    subst this; exact ⟨a, c, rfl, fun X _ i b hi => by cases hi⟩
  · refine ⟨_, c, by rw [h2], fun X hb i b hi => ?_⟩
    have hl : i < hs.length := by rw [h2]; exact (List.getElem?_eq_some_iff.1 hi).1
    have hx : hs[i]? = some hs[i] := List.getElem?_eq_getElem hl; obtain ⟨⟨e1, e2, e3⟩, hm⟩ := h3 i _ b hx hi; have hk : ∀ k u, (sgE.f hs[i])[k]? = some u → X.cell? ⟨g, off + i * 4 + k, none⟩ = some u := fun k u hu => (hb.cell (p := ⟨g, off + i * 4 + k, none⟩) hg).trans (hcl i _ hx k u hu); refine ⟨g, off, hs[i].a, hs[i].n, hs[i].c, rfl, ?_, ?_, ?_, hk 3 _ rfl, hm⟩
    · rw [← e1]; exact hk 0 _ rfl
    · rw [← e2]; exact hk 1 _ rfl
    · rw [← e3]; exact hk 2 _ rfl

/- The helpers of the exact laws over segments: each is marked, and the marks are held. -/
def markG (k : Nat) (b : Sg) : Sg := ⟨((k : Nat) : Int), ((k + 1 : Nat) : Int), ((k + 2 : Nat) : Int), marksI (k + 3) b.items.length⟩
def kG (k : Nat) (b : Sg) : Nat := k + 3 + 9 * b.items.length
def marksG : Nat → List Sg → List Sg
  | _, [] => []
  | k, b :: bs => markG k b :: marksG (kG k b) bs
def kF : Nat → List Sg → Nat
  | k, [] => k
  | k, b :: bs => kF (kG k b) bs
theorem set_waysG {α : Type} {l : List α} {i j : Nat} {y z : α} (h : (l.set i y)[j]? = some z) : (j = i ∧ z = y) ∨ (j ≠ i ∧ l[j]? = some z) := by
  by_cases c : j = i
  · subst c
    have hl : j < l.length := by have := (List.getElem?_eq_some_iff.1 h).1; simpa using this
    rw [List.getElem?_set_self hl] at h; exact .inl ⟨rfl, (Option.some.inj h).symm⟩
  · rw [List.getElem?_set_ne (fun e => c e.symm)] at h
    exact .inr ⟨c, h⟩
theorem SgO.cellAt {B : Nat} {w : World} {g n cap : Nat} {bs : List Sg} {hs : List SgH} (h : SgO B w (.slice (some ⟨g, 0, none⟩) n cap) bs hs) {i : Nat} {y : SgH} (hy : hs[i]? = some y) (hl : n = hs.length) (q : Nat) (u : Value) (hu : (sgE.f y)[q]? = some u) : w.cell? ⟨g, i * 4 + q, none⟩ = some u ∧ w.frozen? ⟨g, i * 4 + q, none⟩ = false := by
  subst hl; exact ⟨h.row.cell rfl i y hy q u hu, h.row.loose _⟩

/- Segments that come in: how great they are. -/
def sgLean (left : Int) (b : Sg) : Prop := ∀ x ∈ b.items, (x.2.user.size : Int) + x.2.name.size + x.2.text.size ≤ left
def gIts : List Sg → Nat
  | [] => 0
  | b :: bs => b.items.length + gIts bs
theorem gIts_append : ∀ (l m : List Sg), gIts (l ++ m) = gIts l + gIts m
  | [], m => by simp [gIts]
  | x :: l, m => by simp [gIts, gIts_append l m]; omega
theorem gIts_mem : ∀ {l : List Sg} {b : Sg}, b ∈ l → b.items.length ≤ gIts l
  | x :: l, b, h => by
    rcases List.mem_cons.1 h with rfl | h
    · simp [gIts]
    · have := gIts_mem h; simp [gIts]; omega

/- Copies of segments that come in. -/
def put4 (w : World) (g i : Nat) (y : SgH) : World := (((w.setCell ⟨g, i * 4, none⟩ (.int .i64 y.no)).setCell ⟨g, i * 4 + 1, none⟩ (.int .i64 y.gen)).setCell ⟨g, i * 4 + 2, none⟩ (.int .i64 y.ende)).setCell ⟨g, i * 4 + 3, none⟩ (.slice y.a y.n y.c)
theorem put4_grown (w : World) (g i : Nat) (y : SgH) : w.grownBy (put4 w g i y) (some g) :=
  (((stored_grown w g (i * 4) _).trans (stored_grown _ g (i * 4 + 1) _)).trans (stored_grown _ g (i * 4 + 2) _)).trans (stored_grown _ g (i * 4 + 3) _)
theorem RBuf.put4 {B : Nat} {w0 w : World} {g cap : Nat} {l : List SgH} (h : RBuf sgE B w0 w (.slice (some ⟨g, 0, none⟩) l.length cap) l) (i : Nat) (x : SgH) (hi : l[i]? = some x) (y : SgH) :
    RBuf sgE B w0 (Go.Proofs.YtfhkhiejnemndaaGreatDoor.put4 w g i y) (.slice (some ⟨g, 0, none⟩) l.length cap) (l.set i y) := by
  have hlt : i < l.length := (List.getElem?_eq_some_iff.1 hi).1; have hl1 : ∀ z : SgH, (l.set i z).length = l.length := fun z => by simp
  have ha1 : ∀ z : SgH, (l.set i z)[i]? = some z := fun z => List.getElem?_set_self hlt; have s0 : RBuf sgE B w0 (w.setCell ⟨g, i * 4, none⟩ (.int .i64 y.no)) (.slice (some ⟨g, 0, none⟩) l.length cap) (l.set i ⟨y.no, x.gen, x.ende, x.a, x.n, x.c⟩) := h.stored i _ ⟨y.no, x.gen, x.ende, x.a, x.n, x.c⟩ hi 0 (by decide) (.int .i64 y.no) rfl; rw [← hl1 ⟨y.no, x.gen, x.ende, x.a, x.n, x.c⟩] at s0; have s1 := s0.stored i _ ⟨y.no, y.gen, x.ende, x.a, x.n, x.c⟩ (ha1 _) 1 (by decide) (.int .i64 y.gen) rfl; rw [List.set_set, hl1] at s1; rw [← hl1 ⟨y.no, y.gen, x.ende, x.a, x.n, x.c⟩] at s1; have s2 := s1.stored i _ ⟨y.no, y.gen, y.ende, x.a, x.n, x.c⟩ (ha1 _) 2 (by decide) (.int .i64 y.ende) rfl; rw [List.set_set, hl1] at s2; rw [← hl1 ⟨y.no, y.gen, y.ende, x.a, x.n, x.c⟩] at s2; have s3 := s2.stored i _ ⟨y.no, y.gen, y.ende, y.a, y.n, y.c⟩ (ha1 _) 3 (by decide) (.slice y.a y.n y.c) rfl; rw [List.set_set, hl1] at s3; exact s3
theorem SgO.put {B : Nat} {w : World} {g cap n : Nat} {bs : List Sg} {hs : List SgH} (h : SgO B w (.slice (some ⟨g, 0, none⟩) n cap) bs hs) (hn : n = hs.length) {i : Nat} {x0 : SgH} (hi : hs[i]? = some x0) (x : SgH) (b : Sg)
    (hx : x.no = b.no ∧ x.gen = b.gen ∧ x.ende = b.ende) (hm : RBuf itE B w w x.mv b.items) (hf : ∀ k, x.mv.ownBlock = some k → k ≠ g)
    (ha : ∀ (j : Nat) (y : SgH), j ≠ i → hs[j]? = some y → ∀ k, x.mv.ownBlock = some k → y.mv.ownBlock ≠ some k) :
    SgO B (Go.Proofs.YtfhkhiejnemndaaGreatDoor.put4 w g i x) (.slice (some ⟨g, 0, none⟩) n cap) (bs.set i b) (hs.set i x) := by
  subst hn; have hg := put4_grown w g i x; have kept : ∀ (m : Value) (l : List Itm), RBuf itE B w w m l → (∀ k, m.ownBlock = some k → k ≠ g) → RBuf itE B (Go.Proofs.YtfhkhiejnemndaaGreatDoor.put4 w g i x) (Go.Proofs.YtfhkhiejnemndaaGreatDoor.put4 w g i x) m l := fun m l hm hf => by
    refine hm.shift hg ?_; cases hmb : m.ownBlock with
    | none => exact .inl rfl
    | some k => exact .inr (fun e => hf k hmb (Option.some.inj e))
  have far0 : ∀ {j : Nat} {y : SgH}, hs[j]? = some y → ∀ k, y.mv.ownBlock = some k → k ≠ g := fun {j y} hj k hk e => h.far j y hj k hk (by rw [e]; rfl); refine ⟨(h.row.put4 i x0 hi x).here, by simp [h.len], fun j y d h1 h2 => ?_, fun j y h1 k hk => ?_, fun j k y z h1 h2 hjk q hq => ?_⟩
  · rcases set_waysG h1 with ⟨rfl, rfl⟩ | ⟨hne, h1⟩
    · rcases set_waysG h2 with ⟨_, rfl⟩ | ⟨hne, _⟩
      · exact ⟨hx, kept _ _ hm hf⟩
      · exact absurd rfl hne
    · rcases set_waysG h2 with ⟨e, _⟩ | ⟨_, h2⟩
      · exact absurd e hne
      · exact ⟨(h.at' j y d h1 h2).1, kept _ _ (h.at' j y d h1 h2).2 (far0 h1)⟩
  · rcases set_waysG h1 with ⟨rfl, rfl⟩ | ⟨hne, h1⟩
    · intro e; exact hf k hk (Option.some.inj e).symm
    · exact h.far j y h1 k hk
  · rcases set_waysG h1 with ⟨ej, ey⟩ | ⟨nj, g1⟩
    · rcases set_waysG h2 with ⟨ek, _⟩ | ⟨nk, g2⟩
      · exact absurd (ej.trans ek.symm) hjk
      · rw [ey] at hq
        exact ha k z nk g2 q hq
    · rcases set_waysG h2 with ⟨_, ez⟩ | ⟨_, g2⟩
      · rw [ez]; intro e; exact ha j y nj g1 q e hq
      · exact h.apart j k y z g1 g2 hjk q hq
end Go.Proofs.YtfhkhiejnemndaaGreatDoor
