/- Texts of our own, joined. -/
import Derived.Test.YtklkhllkjnbhjaaGreatDoorJi
import Derived.Test.YtklkhllkjnbhjaaGreatDoorJo
import Derived.Deep.RegionLaw
import Derived.Lib.Hide
/- A segment as it is on a disk: its items, and while they are gathered. -/
namespace Go.Proofs.YtklkhllkjnbhjaaGreatDoor
open Go.RowKit
set_option maxRecDepth 100000
set_option maxHeartbeats 8000000
def fiO (f : Fr) : Option Itm := if f.ok then (rrO f.body).map (fun r => (f.seq, r)) else none
theorem fiT_some' {f : Fr} {x : Itm} (h : fiO f = some x) : fiT f = .tuple #[itV x.1 x.2, .bool true] := by
  unfold fiO at h; by_cases c : f.ok
  · rw [if_pos c] at h
    cases hr : rrO f.body with
    | none => rw [hr] at h; cases h
    | some r => rw [hr] at h; cases h; exact fiT_some c hr
  · rw [if_neg c] at h; cases h
theorem fiT_none' {f : Fr} (h : fiO f = none) : fiT f = .tuple #[itV 0 Rc.nil, .bool false] := by
  unfold fiO at h; by_cases c : f.ok
  · rw [if_pos c] at h
    cases hr : rrO f.body with
    | none => exact fiT_none hr
    | some r => rw [hr] at h; cases h
  · exact fiT_out c
def sgI (t : ByteArray) : List Itm := (sfL t).filterMap fiO
def sgOf (d : Dk) (s : Int) : Sg := ⟨s, sgG (sgT d s), (sfE (sgT d s) : Int), sgI (sgT d s)⟩
theorem sfL_ok (t : ByteArray) : ∀ f ∈ sfL t, f.ok := by
  intro f hf; unfold sfL at hf
  split at hf
  · cases hf
  · have h1 := List.mem_of_mem_drop hf
    unfold scanL scan at h1; obtain ⟨x, hx, rfl⟩ := List.mem_map.1 h1; exact ((sq_all (four := fourOf) (s := t) (g := sgG t) (k := 0) (Nat.zero_le _)).1 x hx).1
theorem items_take_some {fs : List Fr} {i : Nat} {f : Fr} {x : Itm} (h : fs[i]? = some f) (hx : fiO f = some x) : (fs.take (i + 1)).filterMap fiO = (fs.take i).filterMap fiO ++ [x] := by
  rw [List.take_add_one, h, List.filterMap_append]; simp [hx]
theorem items_take_none {fs : List Fr} {i : Nat} {f : Fr} (h : fs[i]? = some f) (hx : fiO f = none) : (fs.take (i + 1)).filterMap fiO = (fs.take i).filterMap fiO := by
  rw [List.take_add_one, h, List.filterMap_append]; simp [hx]
theorem items_take_le (fs : List Fr) (i : Nat) : ((fs.take i).filterMap fiO).length ≤ fs.length := by
  refine Nat.le_trans (List.length_filterMap_le _ _) ?_; rw [List.length_take]; omega
theorem Rows'.framesG {w : World} {v : Value} {l : List Fr} (h : Rows' frE w v l) : ∃ (ad : Option Addr) (cap : Nat), v = .slice ad l.length cap ∧ ∀ X, Below w.heap.size w X → ∀ (i : Nat) (f : Fr), l[i]? = some f → ∃ g off : Nat, ad = some ⟨g, off, none⟩ ∧
    X.cell? ⟨g, off + i * 3, none⟩ = some (.int .i64 f.gen) ∧ X.cell? ⟨g, off + i * 3 + 1, none⟩ = some (.int .i64 f.seq) ∧ X.cell? ⟨g, off + i * 3 + 2, none⟩ = some (.string f.body) := by
  rcases h.ways with ⟨rfl, a, c, rfl⟩ | ⟨hne, g, off, c, rfl, hc, hg, hcl⟩
  · exact ⟨a, c, rfl, fun X _ i b hi => by cases hi⟩
  · refine ⟨_, c, rfl, fun X hb i f hi => ⟨g, off, rfl, ?_, ?_, ?_⟩⟩
    · exact (hb.cell (p := ⟨g, off + i * 3, none⟩) hg).trans (hcl i f hi 0 _ rfl)
    · exact (hb.cell (p := ⟨g, off + i * 3 + 1, none⟩) hg).trans (hcl i f hi 1 _ rfl)
    · exact (hb.cell (p := ⟨g, off + i * 3 + 2, none⟩) hg).trans (hcl i f hi 2 _ rfl)
theorem Box.butG {w X : World} {b : Nat} {cs : Array Value} {t : TypeId} {r : Option Nat} (h : Box w b cs t) (hg : w.grownBy X r) (hne : ∀ k, r = some k → k ≠ b) : Box X b cs t := (hg.block b h.lt (fun e => hne b e.symm rfl)).trans h
theorem Box.fourG {w : World} {b : Nat} {u0 u1 u2 u3 : Value} {t : TypeId} (h : Box w b #[u0, u1, u2, u3] t) : w.cell? ⟨b, 0, none⟩ = some u0 ∧ w.cell? ⟨b, 1, none⟩ = some u1 ∧ w.cell? ⟨b, 2, none⟩ = some u2 ∧ w.cell? ⟨b, 3, none⟩ = some u3 ∧ w.frozen? ⟨b, 0, none⟩ = false ∧ w.frozen? ⟨b, 1, none⟩ = false ∧ w.frozen? ⟨b, 2, none⟩ = false ∧ w.frozen? ⟨b, 3, none⟩ = false :=
  ⟨h.cell 0 _ rfl, h.cell 1 _ rfl, h.cell 2 _ rfl, h.cell 3 _ rfl, h.loose 0, h.loose 1, h.loose 2, h.loose 3⟩
theorem Box.set4G {w : World} {b : Nat} {u0 u1 u2 u3 : Value} {t : TypeId} (h : Box w b #[u0, u1, u2, u3] t) (v0 v1 v2 v3 : Value) : Box ((((w.setCell ⟨b, 0, none⟩ v0).setCell ⟨b, 1, none⟩ v1).setCell ⟨b, 2, none⟩ v2).setCell ⟨b, 3, none⟩ v3) b #[v0, v1, v2, v3] t := (((h.set 0 v0).set 1 v1).set 2 v2).set 3 v3
theorem RBuf.set4G {α : Type} {E : Enc α} {B g : Nat} {w0 x : World} {v : Value} {l : List α} (h : RBuf E B x x v l) (hb : Below w0.heap.size w0 x) (hB : w0.heap.size ≤ B) (hg : g < B) (hw : w0.heap.size ≤ g) (v0 v1 v2 v3 : Value) : RBuf E w0.heap.size w0 ((((x.setCell ⟨g, 0, none⟩ v0).setCell ⟨g, 1, none⟩ v1).setCell ⟨g, 2, none⟩ v2).setCell ⟨g, 3, none⟩ v3) v l := by
  have hne : v.ownBlock = none ∨ v.ownBlock ≠ some g := .inr (fun e => by have := (h.own.lt g e).1; omega); have h0 := h.shift (stored_grown _ g 0 v0) hne; have h1 := h0.shift (stored_grown _ g 1 v1) hne; have h2 := h1.shift (stored_grown _ g 2 v2) hne; have h3 := h2.shift (stored_grown _ g 3 v3) hne; exact h3.down ((((hb.setCell (p := ⟨g, 0, none⟩) hw v0).setCell (p := ⟨g, 1, none⟩) hw v1).setCell (p := ⟨g, 2, none⟩) hw v2).setCell (p := ⟨g, 3, none⟩) hw v3) hB
theorem Box.nineG {w : World} {b : Nat} {u0 u1 u2 u3 u4 u5 u6 u7 u8 : Value} {t : TypeId} (h : Box w b #[u0, u1, u2, u3, u4, u5, u6, u7, u8] t) : w.cell? ⟨b, 0, none⟩ = some u0 ∧ w.cell? ⟨b, 1, none⟩ = some u1 ∧ w.cell? ⟨b, 2, none⟩ = some u2 ∧ w.cell? ⟨b, 3, none⟩ = some u3 ∧ w.cell? ⟨b, 4, none⟩ = some u4 ∧ w.cell? ⟨b, 5, none⟩ = some u5 ∧ w.cell? ⟨b, 6, none⟩ = some u6 ∧ w.cell? ⟨b, 7, none⟩ = some u7 ∧ w.cell? ⟨b, 8, none⟩ = some u8 :=
  ⟨h.cell 0 _ rfl, h.cell 1 _ rfl, h.cell 2 _ rfl, h.cell 3 _ rfl, h.cell 4 _ rfl, h.cell 5 _ rfl, h.cell 6 _ rfl, h.cell 7 _ rfl, h.cell 8 _ rfl⟩
structure SgL (w1 : World) (B : Nat) (tS : TypeId) (no gn en : Int) (x : World) (a : Option Addr) (cap : Nat) (l : List Itm) : Prop where
  seg : Box x w1.heap.size #[.int .i64 no, .int .i64 gn, .int .i64 en, .slice a l.length cap] tS
  its : RBuf itE B x x (.slice a l.length cap) l
  bel : Below w1.heap.size w1 x
  lt : w1.heap.size < B
theorem SgL.later {w1 : World} {B : Nat} {tS : TypeId} {no gn en : Int} {x y : World} {a : Option Addr} {cap : Nat} {l : List Itm} (h : SgL w1 B tS no gn en x a cap l) (hb : Below x.heap.size x y) : SgL w1 B tS no gn en y a cap l :=
  ⟨h.seg.later hb, (h.its.later hb).here, h.bel.trans (hb.mono h.bel.size), h.lt⟩
theorem SgL.push {w1 : World} {B : Nat} {tS : TypeId} {no gn en : Int} {x y : World} {a : Option Addr} {cap : Nat} {l m : List Itm} (h : SgL w1 B tS no gn en x a cap l)
    (a2 : Option Addr) (c2 : Nat) (hr : RBuf itE B y y (.slice a2 m.length c2) m) (hg : x.grownBy y (Value.slice a l.length cap).ownBlock) : SgL w1 B tS no gn en (y.setCell ⟨w1.heap.size, 3, none⟩ (.slice a2 m.length c2)) a2 c2 m := by
  have hne : ∀ k, (Value.slice a l.length cap).ownBlock = some k → B ≤ k := fun k hk => (h.its.own.lt k hk).1; have b3 := h.seg.butG hg (fun k hk => by have := hne k hk; have := h.lt; omega); refine ⟨b3.set 3 _, hr.shift (stored_grown _ w1.heap.size 3 _) ?_, (h.bel.grown hg h.bel.size (fun k hk => by have := hne k hk; have := h.lt; omega)).setCell (p := ⟨w1.heap.size, 3, none⟩) (Nat.le_refl _) _, h.lt⟩; cases hb : (Value.slice a2 m.length c2).ownBlock with
  | none => exact .inl rfl
  | some k =>
    right; intro e; have e1 : k = w1.heap.size := Option.some.inj e; have := (hr.own.lt k hb).1; have := h.lt; omega
theorem SgL.cells {w1 : World} {B : Nat} {tS : TypeId} {no gn en : Int} {x y : World} {a : Option Addr} {cap : Nat} {l : List Itm} (h : SgL w1 B tS no gn en x a cap l)
    (hg : x.grownBy y (Value.slice a l.length cap).ownBlock) : y.cell? ⟨w1.heap.size, 3, none⟩ = some (.slice a l.length cap) ∧ y.frozen? ⟨w1.heap.size, 3, none⟩ = false := by
  have hne : ∀ k, (Value.slice a l.length cap).ownBlock = some k → B ≤ k := fun k hk => (h.its.own.lt k hk).1; have b3 := h.seg.butG hg (fun k hk => by have := hne k hk; have := h.lt; omega); exact ⟨b3.cell 3 _ rfl, b3.loose 3⟩
def SoR (s : Sg) (w : World) (e : Ending) (w' : World) : Prop := ∃ (a : Option Addr) (cap : Nat), e = .returned (.agg #[.int .i64 s.no, .int .i64 s.gen, .int .i64 s.ende, .slice a s.items.length cap]) ∧ RBuf itE w.heap.size w w' (.slice a s.items.length cap) s.items

/- What records tell: the model's choice of a record. -/
structure BsI (w : World) (g0 g1 : Nat) (x : Itm) (X : World) : Prop where
  res : Box X g0 #[.int .i64 0, .int .i64 0, .int .i64 0, .int .i64 0, .int .i64 0, .int .i64 0, .string ⟨#[]⟩, .string ⟨#[]⟩, .string ⟨#[]⟩] 44
  out : Box X g1 #[.int .i64 x.1, .int .i64 x.2.kind, .int .i64 x.2.valid, .int .i64 x.2.uid, .int .i64 x.2.next, .int .i64 x.2.flags, .string x.2.user, .string x.2.name, .string x.2.text] 44
  bel : Below w.heap.size w X
  l0 : w.heap.size ≤ g0
  l1 : w.heap.size ≤ g1
  n01 : g0 ≠ g1

/- Right items, plainly: as they are gone through. -/
def itOk (x : Itm) : Prop := (1 ≤ x.1 ∧ x.1 ≤ 1000000000) ∧ x.2.ok
def ItG (l : List Itm) (i : Nat) : Prop := (∀ (j : Nat) (x : Itm), l[j]? = some x → j < i → itOk x) ∧ ∀ (j k : Nat) (x y : Itm), l[j]? = some x → l[k]? = some y → j < k → k < i → x.1 = y.1 → x = y
noncomputable instance decItemsOk (l : List Itm) : Decidable (itemsOk l) := Classical.propDecidable _
theorem ItG.zero (l : List Itm) : ItG l 0 := ⟨fun _ _ _ h => by omega, fun _ _ _ _ _ _ _ h => by omega⟩
theorem ItG.next {l : List Itm} {i : Nat} {x : Itm} (h : ItG l i) (hx : l[i]? = some x) (hok : itOk x) (hd : ∀ (j : Nat) (y : Itm), l[j]? = some y → j < i → y.1 = x.1 → y = x) : ItG l (i + 1) := by
  refine ⟨fun j y hy hj => ?_, fun j k y z hy hz hjk hk e => ?_⟩
  · by_cases e : j = i
    · subst e; rw [hx] at hy; cases hy; exact hok
    · exact h.1 j y hy (by omega)
  · by_cases e2 : k = i
    · subst e2; rw [hx] at hz; cases hz; exact hd j y hy hjk e
    · exact h.2 j k y z hy hz hjk (by omega) e
theorem ItG.done {l : List Itm} (h : ItG l l.length) : decide (itemsOk l) = decide (l.length ≤ 200) := by
  apply decide_eq_decide.2; constructor
  · exact fun c => c.2.2
  · intro hl
    refine ⟨fun x hx => ?_, fun x hx y hy e => ?_, hl⟩
    · obtain ⟨j, hj, rfl⟩ := List.getElem_of_mem hx
      exact h.1 j _ (List.getElem?_eq_getElem hj) hj
    · obtain ⟨j, hj, rfl⟩ := List.getElem_of_mem hx
      obtain ⟨k, hk, rfl⟩ := List.getElem_of_mem hy; rcases Nat.lt_trichotomy j k with c | c | c
      · exact h.2 j k _ _ (List.getElem?_eq_getElem hj) (List.getElem?_eq_getElem hk) c hk e
      · subst c; rfl
      · exact (h.2 k j _ _ (List.getElem?_eq_getElem hk) (List.getElem?_eq_getElem hj) c hj e.symm).symm
theorem items_bad {l : List Itm} {i : Nat} {x : Itm} (hx : l[i]? = some x) (h : ¬ itOk x) : decide (itemsOk l) = false :=
  decide_eq_false fun c => h (c.1 x (List.mem_of_getElem? hx))
theorem items_part {l : List Itm} {j i : Nat} {x y : Itm} (hx : l[j]? = some x) (hy : l[i]? = some y) (e : x.1 = y.1) (h : x ≠ y) : decide (itemsOk l) = false :=
  decide_eq_false fun c => h (c.2.1 x (List.mem_of_getElem? hx) y (List.mem_of_getElem? hy) e)
end Go.Proofs.YtklkhllkjnbhjaaGreatDoor
