/- Texts of our own, joined. -/
import Derived.Test.YtgcnebepklelpaaGreatDoorJb
import Derived.Lib.Hide
import Derived.Laws.StructEq
import Derived.Test.YtgcnebepklelpaaGreatDoorJa
/- What records tell: the model's choice of a record. -/
namespace Go.Proofs.YtgcnebepklelpaaGreatDoor
open Go.RowKit

theorem Box.set9 {w : World} {b : Nat} {u0 u1 u2 u3 u4 u5 u6 u7 u8 : Value} {t : TypeId} (h : Box w b #[u0, u1, u2, u3, u4, u5, u6, u7, u8] t) (v0 v1 v2 v3 v4 v5 v6 v7 v8 : Value) : Box ((Go.Proofs.YtgcnebepklelpaaGreatDoor.set8 w b v0 v1 v2 v3 v4 v5 v6 v7).setCell ⟨b, 8, none⟩ v8) b #[v0, v1, v2, v3, v4, v5, v6, v7, v8] t :=
  have a0 : Box (w.setCell ⟨b, 0, none⟩ v0) b #[v0, u1, u2, u3, u4, u5, u6, u7, u8] t := h.set 0 v0
  have a1 : Box ((w.setCell ⟨b, 0, none⟩ v0).setCell ⟨b, 1, none⟩ v1) b #[v0, v1, u2, u3, u4, u5, u6, u7, u8] t := a0.set 1 v1
  have a2 : Box (((w.setCell ⟨b, 0, none⟩ v0).setCell ⟨b, 1, none⟩ v1).setCell ⟨b, 2, none⟩ v2) b #[v0, v1, v2, u3, u4, u5, u6, u7, u8] t := a1.set 2 v2
  have a3 : Box ((((w.setCell ⟨b, 0, none⟩ v0).setCell ⟨b, 1, none⟩ v1).setCell ⟨b, 2, none⟩ v2).setCell ⟨b, 3, none⟩ v3) b #[v0, v1, v2, v3, u4, u5, u6, u7, u8] t := a2.set 3 v3
  have a4 : Box (((((w.setCell ⟨b, 0, none⟩ v0).setCell ⟨b, 1, none⟩ v1).setCell ⟨b, 2, none⟩ v2).setCell ⟨b, 3, none⟩ v3).setCell ⟨b, 4, none⟩ v4) b #[v0, v1, v2, v3, v4, u5, u6, u7, u8] t := a3.set 4 v4
  have a5 : Box ((((((w.setCell ⟨b, 0, none⟩ v0).setCell ⟨b, 1, none⟩ v1).setCell ⟨b, 2, none⟩ v2).setCell ⟨b, 3, none⟩ v3).setCell ⟨b, 4, none⟩ v4).setCell ⟨b, 5, none⟩ v5) b #[v0, v1, v2, v3, v4, v5, u6, u7, u8] t := a4.set 5 v5
  have a6 : Box (((((((w.setCell ⟨b, 0, none⟩ v0).setCell ⟨b, 1, none⟩ v1).setCell ⟨b, 2, none⟩ v2).setCell ⟨b, 3, none⟩ v3).setCell ⟨b, 4, none⟩ v4).setCell ⟨b, 5, none⟩ v5).setCell ⟨b, 6, none⟩ v6) b #[v0, v1, v2, v3, v4, v5, v6, u7, u8] t := a5.set 6 v6
  have a7 : Box ((((((((w.setCell ⟨b, 0, none⟩ v0).setCell ⟨b, 1, none⟩ v1).setCell ⟨b, 2, none⟩ v2).setCell ⟨b, 3, none⟩ v3).setCell ⟨b, 4, none⟩ v4).setCell ⟨b, 5, none⟩ v5).setCell ⟨b, 6, none⟩ v6).setCell ⟨b, 7, none⟩ v7) b #[v0, v1, v2, v3, v4, v5, v6, v7, u8] t := a6.set 7 v7
  have a8 : Box (((((((((w.setCell ⟨b, 0, none⟩ v0).setCell ⟨b, 1, none⟩ v1).setCell ⟨b, 2, none⟩ v2).setCell ⟨b, 3, none⟩ v3).setCell ⟨b, 4, none⟩ v4).setCell ⟨b, 5, none⟩ v5).setCell ⟨b, 6, none⟩ v6).setCell ⟨b, 7, none⟩ v7).setCell ⟨b, 8, none⟩ v8) b #[v0, v1, v2, v3, v4, v5, v6, v7, v8] t := a7.set 8 v8
  a8

structure BsI (w : World) (g0 g1 : Nat) (x : Itm) (X : World) : Prop where
  res : Box X g0 #[.int .i64 0, .int .i64 0, .int .i64 0, .int .i64 0, .int .i64 0, .int .i64 0, .string ⟨#[]⟩, .string ⟨#[]⟩, .string ⟨#[]⟩] 133
  out : Box X g1 #[.int .i64 x.1, .int .i64 x.2.kind, .int .i64 x.2.valid, .int .i64 x.2.uid, .int .i64 x.2.next, .int .i64 x.2.flags, .string x.2.user, .string x.2.name, .string x.2.text] 133
  bel : Below w.heap.size w X
  l0 : w.heap.size ≤ g0
  l1 : w.heap.size ≤ g1
  n01 : g0 ≠ g1
theorem BsI.later {w X Y : World} {g0 g1 : Nat} {x : Itm} (h : BsI w g0 g1 x X) (hb : Below X.heap.size X Y) : BsI w g0 g1 x Y := ⟨h.res.later hb, h.out.later hb, h.bel.trans (hb.mono h.bel.size), h.l0, h.l1, h.n01⟩
theorem BsI.put {w X : World} {g0 g1 : Nat} {x : Itm} (h : BsI w g0 g1 x X) (y : Itm) : BsI w g0 g1 y ((set8 X g1 (.int .i64 y.1) (.int .i64 y.2.kind) (.int .i64 y.2.valid) (.int .i64 y.2.uid) (.int .i64 y.2.next) (.int .i64 y.2.flags) (.string y.2.user) (.string y.2.name)).setCell ⟨g1, 8, none⟩ (.string y.2.text)) :=
  ⟨h.res.but ((grown_set8 X g1 _ _ _ _ _ _ _ _).trans (stored_grown _ _ _ _)) h.n01, h.out.set9 _ _ _ _ _ _ _ _ _, below_set9 h.bel h.l1 _ _ _ _ _ _ _ _ _, h.l0, h.l1, h.n01⟩


end Go.Proofs.YtgcnebepklelpaaGreatDoor

/- Right items, plainly: as they are gone through. -/
namespace Go.Proofs.YtgcnebepklelpaaGreatDoor

def itOk (x : Itm) : Prop := (1 ≤ x.1 ∧ x.1 ≤ 1000000000) ∧ x.2.ok
def ItG (l : List Itm) (i : Nat) : Prop := (∀ (j : Nat) (x : Itm), l[j]? = some x → j < i → itOk x) ∧ ∀ (j k : Nat) (x y : Itm), l[j]? = some x → l[k]? = some y → j < k → k < i → x.1 = y.1 → x = y
noncomputable instance decItemsOk (l : List Itm) : Decidable (itemsOk l) := Classical.propDecidable _

theorem ItG.zero (l : List Itm) : ItG l 0 := ⟨fun _ _ _ h => by omega, fun _ _ _ _ _ _ _ h => by omega⟩
theorem ItG.next {l : List Itm} {i : Nat} {x : Itm} (h : ItG l i) (hx : l[i]? = some x) (hok : itOk x) (hd : ∀ (j : Nat) (y : Itm), l[j]? = some y → j < i → y.1 = x.1 → y = x) : ItG l (i + 1) := by
  refine ⟨fun j y hy hj => ?_, fun j k y z hy hz hjk hk e => ?_⟩
  · by_cases e : j = i
    · subst e; rw [hx] at hy; cases hy; exact hok
    · exact h.1 j y hy (by omega)
  · by_cases e2 : k = i
    · subst e2; rw [hx] at hz; cases hz; exact hd j y hy hjk e
    · exact h.2 j k y z hy hz hjk (by omega) e
theorem ItG.done {l : List Itm} (h : ItG l l.length) : decide (itemsOk l) = decide (l.length ≤ 200) := by
  apply decide_eq_decide.2
  constructor
  · exact fun c => c.2.2
  · intro hl
    refine ⟨fun x hx => ?_, fun x hx y hy e => ?_, hl⟩
    · obtain ⟨j, hj, rfl⟩ := List.getElem_of_mem hx
      exact h.1 j _ (List.getElem?_eq_getElem hj) hj
    · obtain ⟨j, hj, rfl⟩ := List.getElem_of_mem hx
      obtain ⟨k, hk, rfl⟩ := List.getElem_of_mem hy
      rcases Nat.lt_trichotomy j k with c | c | c
      · exact h.2 j k _ _ (List.getElem?_eq_getElem hj) (List.getElem?_eq_getElem hk) c hk e
      · subst c; rfl
      · exact (h.2 k j _ _ (List.getElem?_eq_getElem hk) (List.getElem?_eq_getElem hj) c hj e.symm).symm
end Go.Proofs.YtgcnebepklelpaaGreatDoor

/- What records tell: the model's ItemsOk. -/
namespace Go.Proofs.YtgcnebepklelpaaGreatDoor
open Go.RowKit

def ItRow (w : World) (ad : Option Addr) (l : List Itm) : Prop := ∀ X, Below w.heap.size w X → ∀ i x, l[i]? = some x → ∃ g off, ad = some ⟨g, off, none⟩ ∧ X.cell? ⟨g, off + i * 9, none⟩ = some (.int .i64 x.1) ∧ X.cell? ⟨g, off + i * 9 + 1, none⟩ = some (.int .i64 x.2.kind) ∧ X.cell? ⟨g, off + i * 9 + 2, none⟩ = some (.int .i64 x.2.valid) ∧ X.cell? ⟨g, off + i * 9 + 3, none⟩ = some (.int .i64 x.2.uid) ∧ X.cell? ⟨g, off + i * 9 + 4, none⟩ = some (.int .i64 x.2.next) ∧ X.cell? ⟨g, off + i * 9 + 5, none⟩ = some (.int .i64 x.2.flags) ∧ X.cell? ⟨g, off + i * 9 + 6, none⟩ = some (.string x.2.user) ∧ X.cell? ⟨g, off + i * 9 + 7, none⟩ = some (.string x.2.name) ∧ X.cell? ⟨g, off + i * 9 + 8, none⟩ = some (.string x.2.text)
theorem Rows'.items {w : World} {v : Value} {l : List Itm} (h : Rows' itE w v l) : ∃ (ad : Option Addr) (cap : Nat), v = .slice ad l.length cap ∧ ItRow w ad l := by
  rcases h.ways with ⟨rfl, a, c, rfl⟩ | ⟨hne, g, off, c, rfl, hc, hg, hcl⟩
  · exact ⟨a, c, rfl, fun X _ i x hi => by cases hi⟩
  · exact ⟨_, c, rfl, fun X hb i x hi => ⟨g, off, rfl, it_cells hcl hg hb i x hi⟩⟩


end Go.Proofs.YtgcnebepklelpaaGreatDoor

/- Records and items: the helpers of the exact laws. -/
namespace Go.Proofs.YtgcnebepklelpaaGreatDoor
open Go.RowKit



set_option maxRecDepth 100000 in
set_option maxHeartbeats 1000000 in
theorem eqRec_same (r : Rc) (w : World) : Calls Tryz.prog 118 #[r.v, r.v] w fun e w' => e = .returned (.bool true) ∧ Below w.heap.size w w' := by
  unfold Rc.v
  go_enter Tryz.func118, Tryz.ntmps118
  go_wp2
  go_ret
  exact ⟨rfl, ((Below.refl _ _).alloc (Nat.le_refl _) _).alloc (by simp) _⟩



set_option maxRecDepth 100000 in
set_option maxHeartbeats 1000000 in
theorem eqItem_same (seq : Int) (r : Rc) (w : World) : Calls Tryz.prog 104 #[itV seq r, itV seq r] w fun e w' => e = .returned (.bool true) ∧ Below w.heap.size w w' := by
  have HT := Lib.hid (fun wx => eqRec_same r wx)
  have bA := belNew w (.cells #[.int .i64 seq, .int .i64 r.kind, .int .i64 r.valid, .int .i64 r.uid, .int .i64 r.next, .int .i64 r.flags, .string r.user, .string r.name, .string r.text] 133)
  have bB := bA.trans ((belNew (w.alloc (.cells #[.int .i64 seq, .int .i64 r.kind, .int .i64 r.valid, .int .i64 r.uid, .int .i64 r.next, .int .i64 r.flags, .string r.user, .string r.name, .string r.text] 133)) (.cells #[.int .i64 seq, .int .i64 r.kind, .int .i64 r.valid, .int .i64 r.uid, .int .i64 r.next, .int .i64 r.flags, .string r.user, .string r.name, .string r.text] 133)).mono bA.size)
  clear bA
  unfold Rc.v at HT
  unfold itV
  go_enter Tryz.func104, Tryz.ntmps104
  go_wp2_with fail
  generalize (w.alloc (.cells #[.int .i64 seq, .int .i64 r.kind, .int .i64 r.valid, .int .i64 r.uid, .int .i64 r.next, .int .i64 r.flags, .string r.user, .string r.name, .string r.text] 133)).alloc (.cells #[.int .i64 seq, .int .i64 r.kind, .int .i64 r.valid, .int .i64 r.uid, .int .i64 r.next, .int .i64 r.flags, .string r.user, .string r.name, .string r.text] 133) = W at bB ⊢
  refine (HT.out _).mono ?_
  rintro e w1 ⟨rfl, k1⟩
  have BB := Lib.hid (bB.trans (k1.mono bB.size))
  clear bB k1 HT
  go_wp2
  go_ret
  exact ⟨rfl, BB.out⟩

end Go.Proofs.YtgcnebepklelpaaGreatDoor

/- Lists of items that come in: how great they are, copies of them, and that two alike are alike; items marked. -/
namespace Go.Proofs.YtgcnebepklelpaaGreatDoor
open Go.RowKit



set_option maxRecDepth 100000 in
set_option maxHeartbeats 2000000 in
theorem eqItemS_same (l : List Itm) (va vb : Value) (w : World) (ha : Rows' itE w va l) (hb : Rows' itE w vb l) (hl : l.length ≤ 1099511627776) :
    Calls Tryz.prog 81 #[va, vb] w fun e w' => e = .returned (.bool true) ∧ Below w.heap.size w w' := by
  obtain ⟨ad, cap, rfl, hrowa⟩ := ha.items
  obtain ⟨ad2, cap2, rfl, hrowb⟩ := hb.items
  have HA := Lib.hid hrowa
  have HB := Lib.hid hrowb
  clear ha hb hrowa hrowb
  go_enter Tryz.func81, Tryz.ntmps81
  go_wp2
  go_loopw [5] (fun iv wr => ∃ i : Nat, i ≤ l.length ∧ iv = .int .i64 (i : Int) ∧ Below w.heap.size w wr) (fun iv _ => l.length - (intOf iv).toNat)
  case atStart => exact ⟨0, by omega, rfl, Below.refl _ _⟩
  case round =>
    obtain ⟨i, hi, rfl, hbel⟩ := hrel
    by_cases hlt : i < l.length
    · have hg : l[i]? = some l[i] := List.getElem?_eq_getElem hlt
      have hbd : Below w.heap.size w wr.drew := hbel.drew
      have HXA : Hid (∀ X, Below wr.drew.heap.size wr.drew X → ∃ ga oa gb ob, ad = some ⟨ga, oa, none⟩ ∧ ad2 = some ⟨gb, ob, none⟩ ∧ (X.cell? ⟨ga, oa + i * 9, none⟩ = some (.int .i64 l[i].1) ∧ X.cell? ⟨ga, oa + i * 9 + 1, none⟩ = some (.int .i64 l[i].2.kind) ∧ X.cell? ⟨ga, oa + i * 9 + 2, none⟩ = some (.int .i64 l[i].2.valid) ∧ X.cell? ⟨ga, oa + i * 9 + 3, none⟩ = some (.int .i64 l[i].2.uid) ∧ X.cell? ⟨ga, oa + i * 9 + 4, none⟩ = some (.int .i64 l[i].2.next) ∧ X.cell? ⟨ga, oa + i * 9 + 5, none⟩ = some (.int .i64 l[i].2.flags) ∧ X.cell? ⟨ga, oa + i * 9 + 6, none⟩ = some (.string l[i].2.user) ∧ X.cell? ⟨ga, oa + i * 9 + 7, none⟩ = some (.string l[i].2.name) ∧ X.cell? ⟨ga, oa + i * 9 + 8, none⟩ = some (.string l[i].2.text)) ∧ (X.cell? ⟨gb, ob + i * 9, none⟩ = some (.int .i64 l[i].1) ∧ X.cell? ⟨gb, ob + i * 9 + 1, none⟩ = some (.int .i64 l[i].2.kind) ∧ X.cell? ⟨gb, ob + i * 9 + 2, none⟩ = some (.int .i64 l[i].2.valid) ∧ X.cell? ⟨gb, ob + i * 9 + 3, none⟩ = some (.int .i64 l[i].2.uid) ∧ X.cell? ⟨gb, ob + i * 9 + 4, none⟩ = some (.int .i64 l[i].2.next) ∧ X.cell? ⟨gb, ob + i * 9 + 5, none⟩ = some (.int .i64 l[i].2.flags) ∧ X.cell? ⟨gb, ob + i * 9 + 6, none⟩ = some (.string l[i].2.user) ∧ X.cell? ⟨gb, ob + i * 9 + 7, none⟩ = some (.string l[i].2.name) ∧ X.cell? ⟨gb, ob + i * 9 + 8, none⟩ = some (.string l[i].2.text))) := fun X hX => by
        obtain ⟨ga, oa, e1, p⟩ := HA.out X (hbd.trans (hX.mono hbd.size)) i _ hg
        obtain ⟨gb, ob, e2, q⟩ := HB.out X (hbd.trans (hX.mono hbd.size)) i _ hg
        exact ⟨ga, oa, gb, ob, e1, e2, p, q⟩
      have HE := Lib.hid (fun wx => eqItem_same l[i].1 l[i].2 wx)
      generalize l[i] = x at *
      obtain ⟨sq, K, V, U, N, FL, US, NM, TX⟩ := x
      unfold itV at HE
      simp only at HXA HE
      obtain ⟨ga, oa, gb, ob, rfl, rfl, p0, q0⟩ := HXA.out _ (Below.refl _ _)
      have HS : Hid (∀ X, Below wr.drew.heap.size wr.drew X → (X.cell? ⟨ga, oa + i * 9, none⟩ = some (.int .i64 sq) ∧ X.cell? ⟨ga, oa + i * 9 + 1, none⟩ = some (.int .i64 K) ∧ X.cell? ⟨ga, oa + i * 9 + 2, none⟩ = some (.int .i64 V) ∧ X.cell? ⟨ga, oa + i * 9 + 3, none⟩ = some (.int .i64 U) ∧ X.cell? ⟨ga, oa + i * 9 + 4, none⟩ = some (.int .i64 N) ∧ X.cell? ⟨ga, oa + i * 9 + 5, none⟩ = some (.int .i64 FL) ∧ X.cell? ⟨ga, oa + i * 9 + 6, none⟩ = some (.string US) ∧ X.cell? ⟨ga, oa + i * 9 + 7, none⟩ = some (.string NM) ∧ X.cell? ⟨ga, oa + i * 9 + 8, none⟩ = some (.string TX)) ∧ (X.cell? ⟨gb, ob + i * 9, none⟩ = some (.int .i64 sq) ∧ X.cell? ⟨gb, ob + i * 9 + 1, none⟩ = some (.int .i64 K) ∧ X.cell? ⟨gb, ob + i * 9 + 2, none⟩ = some (.int .i64 V) ∧ X.cell? ⟨gb, ob + i * 9 + 3, none⟩ = some (.int .i64 U) ∧ X.cell? ⟨gb, ob + i * 9 + 4, none⟩ = some (.int .i64 N) ∧ X.cell? ⟨gb, ob + i * 9 + 5, none⟩ = some (.int .i64 FL) ∧ X.cell? ⟨gb, ob + i * 9 + 6, none⟩ = some (.string US) ∧ X.cell? ⟨gb, ob + i * 9 + 7, none⟩ = some (.string NM) ∧ X.cell? ⟨gb, ob + i * 9 + 8, none⟩ = some (.string TX))) := fun X hX => by
        obtain ⟨ga2, oa2, gb2, ob2, e1, e2, p, q⟩ := HXA.out X hX
        cases e1
        cases e2
        exact ⟨p, q⟩
      have hi0 : (0 : Int) ≤ (i : Int) := by omega
      have hi1 : (i : Int) < (l.length : Int) := by omega
      clear hg HXA p0 q0
      go_wp2
      go_region_held3 (fun X => (X.cell? ⟨ga, oa + i * 9, none⟩ = some (.int .i64 sq) ∧ X.cell? ⟨ga, oa + i * 9 + 1, none⟩ = some (.int .i64 K) ∧ X.cell? ⟨ga, oa + i * 9 + 2, none⟩ = some (.int .i64 V) ∧ X.cell? ⟨ga, oa + i * 9 + 3, none⟩ = some (.int .i64 U) ∧ X.cell? ⟨ga, oa + i * 9 + 4, none⟩ = some (.int .i64 N) ∧ X.cell? ⟨ga, oa + i * 9 + 5, none⟩ = some (.int .i64 FL) ∧ X.cell? ⟨ga, oa + i * 9 + 6, none⟩ = some (.string US) ∧ X.cell? ⟨ga, oa + i * 9 + 7, none⟩ = some (.string NM) ∧ X.cell? ⟨ga, oa + i * 9 + 8, none⟩ = some (.string TX)) ∧ (X.cell? ⟨gb, ob + i * 9, none⟩ = some (.int .i64 sq) ∧ X.cell? ⟨gb, ob + i * 9 + 1, none⟩ = some (.int .i64 K) ∧ X.cell? ⟨gb, ob + i * 9 + 2, none⟩ = some (.int .i64 V) ∧ X.cell? ⟨gb, ob + i * 9 + 3, none⟩ = some (.int .i64 U) ∧ X.cell? ⟨gb, ob + i * 9 + 4, none⟩ = some (.int .i64 N) ∧ X.cell? ⟨gb, ob + i * 9 + 5, none⟩ = some (.int .i64 FL) ∧ X.cell? ⟨gb, ob + i * 9 + 6, none⟩ = some (.string US) ∧ X.cell? ⟨gb, ob + i * 9 + 7, none⟩ = some (.string NM) ∧ X.cell? ⟨gb, ob + i * 9 + 8, none⟩ = some (.string TX)))
        (first | exact HS.out _ (Below.refl _ _) | exact HS.out _ hb1)
        (first | (go_at_call 104; refine (HE.out _).mono ?_; rintro e w1 ⟨rfl, hb1⟩))
      all_goals
        go_wp2
        go_roundw
        case rel => exact ⟨i + 1, by omega, by go_num, hbd.trans (hb1.mono hbd.size)⟩
        case measure => simp [intOf]; omega
    · go_wp2
      go_ret
      exact ⟨rfl, hbel⟩

def RItm (B : Nat) (X : World) (g n cap : Nat) : Prop := ∃ l : List Itm, l.length = n ∧ RBuf itE B X X (.slice (some ⟨g, 0, none⟩) n cap) l
theorem RItm.later {B : Nat} {X Y : World} {g n cap : Nat} (h : RItm B X g n cap) (hb : Below X.heap.size X Y) : RItm B Y g n cap := by
  obtain ⟨l, h1, h2⟩ := h
  exact ⟨l, h1, (h2.later hb).here⟩
theorem RItm.at0 {B : Nat} {X : World} {g n cap : Nat} (h : RItm B X g n cap) {i : Nat} (hi : i < n) : (∃ z : Int, X.cell? ⟨g, i * 9, none⟩ = some (.int .i64 z)) ∧ X.frozen? ⟨g, i * 9, none⟩ = false ∧ ∀ z : Int, RItm B (X.setCell ⟨g, i * 9, none⟩ (.int .i64 z)) g n cap := by
  obtain ⟨l, rfl, h2⟩ := h
  have hx : l[i]? = some l[i] := List.getElem?_eq_getElem hi
  generalize l[i] = x at hx
  exact ⟨⟨_, h2.cell rfl i x hx 0 _ rfl⟩, h2.loose _, fun z => ⟨l.set i (z, ⟨x.2.kind, x.2.valid, x.2.uid, x.2.next, x.2.flags, x.2.user, x.2.name, x.2.text⟩), by simp, (h2.stored i x (z, ⟨x.2.kind, x.2.valid, x.2.uid, x.2.next, x.2.flags, x.2.user, x.2.name, x.2.text⟩) hx 0 (by decide) (.int .i64 z) rfl).here⟩⟩
theorem RItm.at1 {B : Nat} {X : World} {g n cap : Nat} (h : RItm B X g n cap) {i : Nat} (hi : i < n) : (∃ z : Int, X.cell? ⟨g, i * 9 + 1, none⟩ = some (.int .i64 z)) ∧ X.frozen? ⟨g, i * 9 + 1, none⟩ = false ∧ ∀ z : Int, RItm B (X.setCell ⟨g, i * 9 + 1, none⟩ (.int .i64 z)) g n cap := by
  obtain ⟨l, rfl, h2⟩ := h
  have hx : l[i]? = some l[i] := List.getElem?_eq_getElem hi
  generalize l[i] = x at hx
  exact ⟨⟨_, h2.cell rfl i x hx 1 _ rfl⟩, h2.loose _, fun z => ⟨l.set i (x.1, ⟨z, x.2.valid, x.2.uid, x.2.next, x.2.flags, x.2.user, x.2.name, x.2.text⟩), by simp, (h2.stored i x (x.1, ⟨z, x.2.valid, x.2.uid, x.2.next, x.2.flags, x.2.user, x.2.name, x.2.text⟩) hx 1 (by decide) (.int .i64 z) rfl).here⟩⟩
theorem RItm.at2 {B : Nat} {X : World} {g n cap : Nat} (h : RItm B X g n cap) {i : Nat} (hi : i < n) : (∃ z : Int, X.cell? ⟨g, i * 9 + 2, none⟩ = some (.int .i64 z)) ∧ X.frozen? ⟨g, i * 9 + 2, none⟩ = false ∧ ∀ z : Int, RItm B (X.setCell ⟨g, i * 9 + 2, none⟩ (.int .i64 z)) g n cap := by
  obtain ⟨l, rfl, h2⟩ := h
  have hx : l[i]? = some l[i] := List.getElem?_eq_getElem hi
  generalize l[i] = x at hx
  exact ⟨⟨_, h2.cell rfl i x hx 2 _ rfl⟩, h2.loose _, fun z => ⟨l.set i (x.1, ⟨x.2.kind, z, x.2.uid, x.2.next, x.2.flags, x.2.user, x.2.name, x.2.text⟩), by simp, (h2.stored i x (x.1, ⟨x.2.kind, z, x.2.uid, x.2.next, x.2.flags, x.2.user, x.2.name, x.2.text⟩) hx 2 (by decide) (.int .i64 z) rfl).here⟩⟩
theorem RItm.at3 {B : Nat} {X : World} {g n cap : Nat} (h : RItm B X g n cap) {i : Nat} (hi : i < n) : (∃ z : Int, X.cell? ⟨g, i * 9 + 3, none⟩ = some (.int .i64 z)) ∧ X.frozen? ⟨g, i * 9 + 3, none⟩ = false ∧ ∀ z : Int, RItm B (X.setCell ⟨g, i * 9 + 3, none⟩ (.int .i64 z)) g n cap := by
  obtain ⟨l, rfl, h2⟩ := h
  have hx : l[i]? = some l[i] := List.getElem?_eq_getElem hi
  generalize l[i] = x at hx
  exact ⟨⟨_, h2.cell rfl i x hx 3 _ rfl⟩, h2.loose _, fun z => ⟨l.set i (x.1, ⟨x.2.kind, x.2.valid, z, x.2.next, x.2.flags, x.2.user, x.2.name, x.2.text⟩), by simp, (h2.stored i x (x.1, ⟨x.2.kind, x.2.valid, z, x.2.next, x.2.flags, x.2.user, x.2.name, x.2.text⟩) hx 3 (by decide) (.int .i64 z) rfl).here⟩⟩
theorem RItm.at4 {B : Nat} {X : World} {g n cap : Nat} (h : RItm B X g n cap) {i : Nat} (hi : i < n) : (∃ z : Int, X.cell? ⟨g, i * 9 + 4, none⟩ = some (.int .i64 z)) ∧ X.frozen? ⟨g, i * 9 + 4, none⟩ = false ∧ ∀ z : Int, RItm B (X.setCell ⟨g, i * 9 + 4, none⟩ (.int .i64 z)) g n cap := by
  obtain ⟨l, rfl, h2⟩ := h
  have hx : l[i]? = some l[i] := List.getElem?_eq_getElem hi
  generalize l[i] = x at hx
  exact ⟨⟨_, h2.cell rfl i x hx 4 _ rfl⟩, h2.loose _, fun z => ⟨l.set i (x.1, ⟨x.2.kind, x.2.valid, x.2.uid, z, x.2.flags, x.2.user, x.2.name, x.2.text⟩), by simp, (h2.stored i x (x.1, ⟨x.2.kind, x.2.valid, x.2.uid, z, x.2.flags, x.2.user, x.2.name, x.2.text⟩) hx 4 (by decide) (.int .i64 z) rfl).here⟩⟩
theorem RItm.at5 {B : Nat} {X : World} {g n cap : Nat} (h : RItm B X g n cap) {i : Nat} (hi : i < n) : (∃ z : Int, X.cell? ⟨g, i * 9 + 5, none⟩ = some (.int .i64 z)) ∧ X.frozen? ⟨g, i * 9 + 5, none⟩ = false ∧ ∀ z : Int, RItm B (X.setCell ⟨g, i * 9 + 5, none⟩ (.int .i64 z)) g n cap := by
  obtain ⟨l, rfl, h2⟩ := h
  have hx : l[i]? = some l[i] := List.getElem?_eq_getElem hi
  generalize l[i] = x at hx
  exact ⟨⟨_, h2.cell rfl i x hx 5 _ rfl⟩, h2.loose _, fun z => ⟨l.set i (x.1, ⟨x.2.kind, x.2.valid, x.2.uid, x.2.next, z, x.2.user, x.2.name, x.2.text⟩), by simp, (h2.stored i x (x.1, ⟨x.2.kind, x.2.valid, x.2.uid, x.2.next, z, x.2.user, x.2.name, x.2.text⟩) hx 5 (by decide) (.int .i64 z) rfl).here⟩⟩
theorem RItm.at6 {B : Nat} {X : World} {g n cap : Nat} (h : RItm B X g n cap) {i : Nat} (hi : i < n) : (∃ z : ByteArray, X.cell? ⟨g, i * 9 + 6, none⟩ = some (.string z)) ∧ X.frozen? ⟨g, i * 9 + 6, none⟩ = false ∧ ∀ z : ByteArray, RItm B (X.setCell ⟨g, i * 9 + 6, none⟩ (.string z)) g n cap := by
  obtain ⟨l, rfl, h2⟩ := h
  have hx : l[i]? = some l[i] := List.getElem?_eq_getElem hi
  generalize l[i] = x at hx
  exact ⟨⟨_, h2.cell rfl i x hx 6 _ rfl⟩, h2.loose _, fun z => ⟨l.set i (x.1, ⟨x.2.kind, x.2.valid, x.2.uid, x.2.next, x.2.flags, z, x.2.name, x.2.text⟩), by simp, (h2.stored i x (x.1, ⟨x.2.kind, x.2.valid, x.2.uid, x.2.next, x.2.flags, z, x.2.name, x.2.text⟩) hx 6 (by decide) (.string z) rfl).here⟩⟩
theorem RItm.at7 {B : Nat} {X : World} {g n cap : Nat} (h : RItm B X g n cap) {i : Nat} (hi : i < n) : (∃ z : ByteArray, X.cell? ⟨g, i * 9 + 7, none⟩ = some (.string z)) ∧ X.frozen? ⟨g, i * 9 + 7, none⟩ = false ∧ ∀ z : ByteArray, RItm B (X.setCell ⟨g, i * 9 + 7, none⟩ (.string z)) g n cap := by
  obtain ⟨l, rfl, h2⟩ := h
  have hx : l[i]? = some l[i] := List.getElem?_eq_getElem hi
  generalize l[i] = x at hx
  exact ⟨⟨_, h2.cell rfl i x hx 7 _ rfl⟩, h2.loose _, fun z => ⟨l.set i (x.1, ⟨x.2.kind, x.2.valid, x.2.uid, x.2.next, x.2.flags, x.2.user, z, x.2.text⟩), by simp, (h2.stored i x (x.1, ⟨x.2.kind, x.2.valid, x.2.uid, x.2.next, x.2.flags, x.2.user, z, x.2.text⟩) hx 7 (by decide) (.string z) rfl).here⟩⟩
theorem RItm.at8 {B : Nat} {X : World} {g n cap : Nat} (h : RItm B X g n cap) {i : Nat} (hi : i < n) : (∃ z : ByteArray, X.cell? ⟨g, i * 9 + 8, none⟩ = some (.string z)) ∧ X.frozen? ⟨g, i * 9 + 8, none⟩ = false ∧ ∀ z : ByteArray, RItm B (X.setCell ⟨g, i * 9 + 8, none⟩ (.string z)) g n cap := by
  obtain ⟨l, rfl, h2⟩ := h
  have hx : l[i]? = some l[i] := List.getElem?_eq_getElem hi
  generalize l[i] = x at hx
  exact ⟨⟨_, h2.cell rfl i x hx 8 _ rfl⟩, h2.loose _, fun z => ⟨l.set i (x.1, ⟨x.2.kind, x.2.valid, x.2.uid, x.2.next, x.2.flags, x.2.user, x.2.name, z⟩), by simp, (h2.stored i x (x.1, ⟨x.2.kind, x.2.valid, x.2.uid, x.2.next, x.2.flags, x.2.user, x.2.name, z⟩) hx 8 (by decide) (.string z) rfl).here⟩⟩

end Go.Proofs.YtgcnebepklelpaaGreatDoor

/- The helpers of the exact laws over lists of items: each is marked, and the marks are held. -/
namespace Go.Proofs.YtgcnebepklelpaaGreatDoor
open Go.RowKit


def markI (k : Nat) (j : Nat) : Itm := (((k + 9 * j : Nat) : Int), ⟨((k + 9 * j + 1 : Nat) : Int), ((k + 9 * j + 2 : Nat) : Int), ((k + 9 * j + 3 : Nat) : Int), ((k + 9 * j + 4 : Nat) : Int), ((k + 9 * j + 5 : Nat) : Int), mark (k + 9 * j + 6), mark (k + 9 * j + 7), mark (k + 9 * j + 8)⟩)
def marksI (k n : Nat) : List Itm := (List.range n).map (markI k)
theorem marksI_length (k n : Nat) : (marksI k n).length = n := by simp [marksI]
theorem marksI_at {k n i : Nat} (h : i < n) : (marksI k n)[i]? = some (markI k i) := by simp [marksI, h]
def RMI (B : Nat) (w0 X : World) (g cap k : Nat) (l : List Itm) (i : Nat) (y : Itm) : Prop := RBuf itE B w0 X (.slice (some ⟨g, 0, none⟩) l.length cap) ((putTo (markI k) l i).set i y) ∧ i < l.length
theorem RMI.later {B : Nat} {w0 X Y : World} {g cap k i : Nat} {l : List Itm} {y : Itm} (h : RMI B w0 X g cap k l i y) (hb : Below X.heap.size X Y) : RMI B w0 Y g cap k l i y := ⟨h.1.later hb, h.2⟩
theorem RMI.start {B : Nat} {w0 X : World} {g cap k i : Nat} {l : List Itm} (h : RBuf itE B w0 X (.slice (some ⟨g, 0, none⟩) l.length cap) (putTo (markI k) l i)) (hi : i < l.length) : RMI B w0 X g cap k l i l[i] := by
  refine ⟨?_, hi⟩
  have e : (putTo (markI k) l i).set i l[i] = putTo (markI k) l i := by
    have h1 := putTo_at (m := markI k) hi
    obtain ⟨h2, h3⟩ := List.getElem?_eq_some_iff.1 h1
    rw [← h3]
    exact List.set_getElem_self h2
  rw [e]
  exact h
theorem RMI.done {B : Nat} {w0 X : World} {g cap k i : Nat} {l : List Itm} {y : Itm} (h : RMI B w0 X g cap k l i y) (hy : y = markI k i) : RBuf itE B w0 X (.slice (some ⟨g, 0, none⟩) l.length cap) (putTo (markI k) l (i + 1)) := by
  have h1 := h.1
  rw [hy, putTo_set h.2] at h1
  exact h1
theorem RMI.at0 {B : Nat} {w0 X : World} {g cap k i : Nat} {l : List Itm} {z0 z1 z2 z3 z4 z5 : Int} {z6 z7 z8 : ByteArray} (h : RMI B w0 X g cap k l i (z0, ⟨z1, z2, z3, z4, z5, z6, z7, z8⟩)) : X.cell? ⟨g, i * 9, none⟩ = some (.int .i64 (z0)) ∧ X.frozen? ⟨g, i * 9, none⟩ = false ∧ ∀ z : Int, RMI B w0 (X.setCell ⟨g, i * 9, none⟩ (.int .i64 (z))) g cap k l i (z, ⟨z1, z2, z3, z4, z5, z6, z7, z8⟩) := by
  obtain ⟨h1, h2⟩ := h
  have hl : ((putTo (markI k) l i).set i (z0, ⟨z1, z2, z3, z4, z5, z6, z7, z8⟩)).length = l.length := by rw [List.length_set]; exact putTo_length (by omega)
  have hat : ((putTo (markI k) l i).set i (z0, ⟨z1, z2, z3, z4, z5, z6, z7, z8⟩))[i]? = some (z0, ⟨z1, z2, z3, z4, z5, z6, z7, z8⟩) := List.getElem?_set_self (by rw [putTo_length (by omega)]; exact h2)
  rw [← hl] at h1
  refine ⟨h1.cell rfl i _ hat 0 _ rfl, h1.loose _, fun z => ⟨?_, h2⟩⟩
  have st := h1.stored i _ (z, ⟨z1, z2, z3, z4, z5, z6, z7, z8⟩) hat 0 (by decide) (.int .i64 (z)) rfl
  rw [List.set_set, hl] at st
  exact st
theorem RMI.at1 {B : Nat} {w0 X : World} {g cap k i : Nat} {l : List Itm} {z0 z1 z2 z3 z4 z5 : Int} {z6 z7 z8 : ByteArray} (h : RMI B w0 X g cap k l i (z0, ⟨z1, z2, z3, z4, z5, z6, z7, z8⟩)) : X.cell? ⟨g, i * 9 + 1, none⟩ = some (.int .i64 (z1)) ∧ X.frozen? ⟨g, i * 9 + 1, none⟩ = false ∧ ∀ z : Int, RMI B w0 (X.setCell ⟨g, i * 9 + 1, none⟩ (.int .i64 (z))) g cap k l i (z0, ⟨z, z2, z3, z4, z5, z6, z7, z8⟩) := by
  obtain ⟨h1, h2⟩ := h
  have hl : ((putTo (markI k) l i).set i (z0, ⟨z1, z2, z3, z4, z5, z6, z7, z8⟩)).length = l.length := by rw [List.length_set]; exact putTo_length (by omega)
  have hat : ((putTo (markI k) l i).set i (z0, ⟨z1, z2, z3, z4, z5, z6, z7, z8⟩))[i]? = some (z0, ⟨z1, z2, z3, z4, z5, z6, z7, z8⟩) := List.getElem?_set_self (by rw [putTo_length (by omega)]; exact h2)
  rw [← hl] at h1
  refine ⟨h1.cell rfl i _ hat 1 _ rfl, h1.loose _, fun z => ⟨?_, h2⟩⟩
  have st := h1.stored i _ (z0, ⟨z, z2, z3, z4, z5, z6, z7, z8⟩) hat 1 (by decide) (.int .i64 (z)) rfl
  rw [List.set_set, hl] at st
  exact st
theorem RMI.at2 {B : Nat} {w0 X : World} {g cap k i : Nat} {l : List Itm} {z0 z1 z2 z3 z4 z5 : Int} {z6 z7 z8 : ByteArray} (h : RMI B w0 X g cap k l i (z0, ⟨z1, z2, z3, z4, z5, z6, z7, z8⟩)) : X.cell? ⟨g, i * 9 + 2, none⟩ = some (.int .i64 (z2)) ∧ X.frozen? ⟨g, i * 9 + 2, none⟩ = false ∧ ∀ z : Int, RMI B w0 (X.setCell ⟨g, i * 9 + 2, none⟩ (.int .i64 (z))) g cap k l i (z0, ⟨z1, z, z3, z4, z5, z6, z7, z8⟩) := by
  obtain ⟨h1, h2⟩ := h
  have hl : ((putTo (markI k) l i).set i (z0, ⟨z1, z2, z3, z4, z5, z6, z7, z8⟩)).length = l.length := by rw [List.length_set]; exact putTo_length (by omega)
  have hat : ((putTo (markI k) l i).set i (z0, ⟨z1, z2, z3, z4, z5, z6, z7, z8⟩))[i]? = some (z0, ⟨z1, z2, z3, z4, z5, z6, z7, z8⟩) := List.getElem?_set_self (by rw [putTo_length (by omega)]; exact h2)
  rw [← hl] at h1
  refine ⟨h1.cell rfl i _ hat 2 _ rfl, h1.loose _, fun z => ⟨?_, h2⟩⟩
  have st := h1.stored i _ (z0, ⟨z1, z, z3, z4, z5, z6, z7, z8⟩) hat 2 (by decide) (.int .i64 (z)) rfl
  rw [List.set_set, hl] at st
  exact st
theorem RMI.at3 {B : Nat} {w0 X : World} {g cap k i : Nat} {l : List Itm} {z0 z1 z2 z3 z4 z5 : Int} {z6 z7 z8 : ByteArray} (h : RMI B w0 X g cap k l i (z0, ⟨z1, z2, z3, z4, z5, z6, z7, z8⟩)) : X.cell? ⟨g, i * 9 + 3, none⟩ = some (.int .i64 (z3)) ∧ X.frozen? ⟨g, i * 9 + 3, none⟩ = false ∧ ∀ z : Int, RMI B w0 (X.setCell ⟨g, i * 9 + 3, none⟩ (.int .i64 (z))) g cap k l i (z0, ⟨z1, z2, z, z4, z5, z6, z7, z8⟩) := by
  obtain ⟨h1, h2⟩ := h
  have hl : ((putTo (markI k) l i).set i (z0, ⟨z1, z2, z3, z4, z5, z6, z7, z8⟩)).length = l.length := by rw [List.length_set]; exact putTo_length (by omega)
  have hat : ((putTo (markI k) l i).set i (z0, ⟨z1, z2, z3, z4, z5, z6, z7, z8⟩))[i]? = some (z0, ⟨z1, z2, z3, z4, z5, z6, z7, z8⟩) := List.getElem?_set_self (by rw [putTo_length (by omega)]; exact h2)
  rw [← hl] at h1
  refine ⟨h1.cell rfl i _ hat 3 _ rfl, h1.loose _, fun z => ⟨?_, h2⟩⟩
  have st := h1.stored i _ (z0, ⟨z1, z2, z, z4, z5, z6, z7, z8⟩) hat 3 (by decide) (.int .i64 (z)) rfl
  rw [List.set_set, hl] at st
  exact st
theorem RMI.at4 {B : Nat} {w0 X : World} {g cap k i : Nat} {l : List Itm} {z0 z1 z2 z3 z4 z5 : Int} {z6 z7 z8 : ByteArray} (h : RMI B w0 X g cap k l i (z0, ⟨z1, z2, z3, z4, z5, z6, z7, z8⟩)) : X.cell? ⟨g, i * 9 + 4, none⟩ = some (.int .i64 (z4)) ∧ X.frozen? ⟨g, i * 9 + 4, none⟩ = false ∧ ∀ z : Int, RMI B w0 (X.setCell ⟨g, i * 9 + 4, none⟩ (.int .i64 (z))) g cap k l i (z0, ⟨z1, z2, z3, z, z5, z6, z7, z8⟩) := by
  obtain ⟨h1, h2⟩ := h
  have hl : ((putTo (markI k) l i).set i (z0, ⟨z1, z2, z3, z4, z5, z6, z7, z8⟩)).length = l.length := by rw [List.length_set]; exact putTo_length (by omega)
  have hat : ((putTo (markI k) l i).set i (z0, ⟨z1, z2, z3, z4, z5, z6, z7, z8⟩))[i]? = some (z0, ⟨z1, z2, z3, z4, z5, z6, z7, z8⟩) := List.getElem?_set_self (by rw [putTo_length (by omega)]; exact h2)
  rw [← hl] at h1
  refine ⟨h1.cell rfl i _ hat 4 _ rfl, h1.loose _, fun z => ⟨?_, h2⟩⟩
  have st := h1.stored i _ (z0, ⟨z1, z2, z3, z, z5, z6, z7, z8⟩) hat 4 (by decide) (.int .i64 (z)) rfl
  rw [List.set_set, hl] at st
  exact st
theorem RMI.at5 {B : Nat} {w0 X : World} {g cap k i : Nat} {l : List Itm} {z0 z1 z2 z3 z4 z5 : Int} {z6 z7 z8 : ByteArray} (h : RMI B w0 X g cap k l i (z0, ⟨z1, z2, z3, z4, z5, z6, z7, z8⟩)) : X.cell? ⟨g, i * 9 + 5, none⟩ = some (.int .i64 (z5)) ∧ X.frozen? ⟨g, i * 9 + 5, none⟩ = false ∧ ∀ z : Int, RMI B w0 (X.setCell ⟨g, i * 9 + 5, none⟩ (.int .i64 (z))) g cap k l i (z0, ⟨z1, z2, z3, z4, z, z6, z7, z8⟩) := by
  obtain ⟨h1, h2⟩ := h
  have hl : ((putTo (markI k) l i).set i (z0, ⟨z1, z2, z3, z4, z5, z6, z7, z8⟩)).length = l.length := by rw [List.length_set]; exact putTo_length (by omega)
  have hat : ((putTo (markI k) l i).set i (z0, ⟨z1, z2, z3, z4, z5, z6, z7, z8⟩))[i]? = some (z0, ⟨z1, z2, z3, z4, z5, z6, z7, z8⟩) := List.getElem?_set_self (by rw [putTo_length (by omega)]; exact h2)
  rw [← hl] at h1
  refine ⟨h1.cell rfl i _ hat 5 _ rfl, h1.loose _, fun z => ⟨?_, h2⟩⟩
  have st := h1.stored i _ (z0, ⟨z1, z2, z3, z4, z, z6, z7, z8⟩) hat 5 (by decide) (.int .i64 (z)) rfl
  rw [List.set_set, hl] at st
  exact st
theorem RMI.at6 {B : Nat} {w0 X : World} {g cap k i : Nat} {l : List Itm} {z0 z1 z2 z3 z4 z5 : Int} {z6 z7 z8 : ByteArray} (h : RMI B w0 X g cap k l i (z0, ⟨z1, z2, z3, z4, z5, z6, z7, z8⟩)) : X.cell? ⟨g, i * 9 + 6, none⟩ = some (.string (z6)) ∧ X.frozen? ⟨g, i * 9 + 6, none⟩ = false ∧ ∀ z : ByteArray, RMI B w0 (X.setCell ⟨g, i * 9 + 6, none⟩ (.string (z))) g cap k l i (z0, ⟨z1, z2, z3, z4, z5, z, z7, z8⟩) := by
  obtain ⟨h1, h2⟩ := h
  have hl : ((putTo (markI k) l i).set i (z0, ⟨z1, z2, z3, z4, z5, z6, z7, z8⟩)).length = l.length := by rw [List.length_set]; exact putTo_length (by omega)
  have hat : ((putTo (markI k) l i).set i (z0, ⟨z1, z2, z3, z4, z5, z6, z7, z8⟩))[i]? = some (z0, ⟨z1, z2, z3, z4, z5, z6, z7, z8⟩) := List.getElem?_set_self (by rw [putTo_length (by omega)]; exact h2)
  rw [← hl] at h1
  refine ⟨h1.cell rfl i _ hat 6 _ rfl, h1.loose _, fun z => ⟨?_, h2⟩⟩
  have st := h1.stored i _ (z0, ⟨z1, z2, z3, z4, z5, z, z7, z8⟩) hat 6 (by decide) (.string (z)) rfl
  rw [List.set_set, hl] at st
  exact st
theorem RMI.at7 {B : Nat} {w0 X : World} {g cap k i : Nat} {l : List Itm} {z0 z1 z2 z3 z4 z5 : Int} {z6 z7 z8 : ByteArray} (h : RMI B w0 X g cap k l i (z0, ⟨z1, z2, z3, z4, z5, z6, z7, z8⟩)) : X.cell? ⟨g, i * 9 + 7, none⟩ = some (.string (z7)) ∧ X.frozen? ⟨g, i * 9 + 7, none⟩ = false ∧ ∀ z : ByteArray, RMI B w0 (X.setCell ⟨g, i * 9 + 7, none⟩ (.string (z))) g cap k l i (z0, ⟨z1, z2, z3, z4, z5, z6, z, z8⟩) := by
  obtain ⟨h1, h2⟩ := h
  have hl : ((putTo (markI k) l i).set i (z0, ⟨z1, z2, z3, z4, z5, z6, z7, z8⟩)).length = l.length := by rw [List.length_set]; exact putTo_length (by omega)
  have hat : ((putTo (markI k) l i).set i (z0, ⟨z1, z2, z3, z4, z5, z6, z7, z8⟩))[i]? = some (z0, ⟨z1, z2, z3, z4, z5, z6, z7, z8⟩) := List.getElem?_set_self (by rw [putTo_length (by omega)]; exact h2)
  rw [← hl] at h1
  refine ⟨h1.cell rfl i _ hat 7 _ rfl, h1.loose _, fun z => ⟨?_, h2⟩⟩
  have st := h1.stored i _ (z0, ⟨z1, z2, z3, z4, z5, z6, z, z8⟩) hat 7 (by decide) (.string (z)) rfl
  rw [List.set_set, hl] at st
  exact st
theorem RMI.at8 {B : Nat} {w0 X : World} {g cap k i : Nat} {l : List Itm} {z0 z1 z2 z3 z4 z5 : Int} {z6 z7 z8 : ByteArray} (h : RMI B w0 X g cap k l i (z0, ⟨z1, z2, z3, z4, z5, z6, z7, z8⟩)) : X.cell? ⟨g, i * 9 + 8, none⟩ = some (.string (z8)) ∧ X.frozen? ⟨g, i * 9 + 8, none⟩ = false ∧ ∀ z : ByteArray, RMI B w0 (X.setCell ⟨g, i * 9 + 8, none⟩ (.string (z))) g cap k l i (z0, ⟨z1, z2, z3, z4, z5, z6, z7, z⟩) := by
  obtain ⟨h1, h2⟩ := h
  have hl : ((putTo (markI k) l i).set i (z0, ⟨z1, z2, z3, z4, z5, z6, z7, z8⟩)).length = l.length := by rw [List.length_set]; exact putTo_length (by omega)
  have hat : ((putTo (markI k) l i).set i (z0, ⟨z1, z2, z3, z4, z5, z6, z7, z8⟩))[i]? = some (z0, ⟨z1, z2, z3, z4, z5, z6, z7, z8⟩) := List.getElem?_set_self (by rw [putTo_length (by omega)]; exact h2)
  rw [← hl] at h1
  refine ⟨h1.cell rfl i _ hat 8 _ rfl, h1.loose _, fun z => ⟨?_, h2⟩⟩
  have st := h1.stored i _ (z0, ⟨z1, z2, z3, z4, z5, z6, z7, z⟩) hat 8 (by decide) (.string (z)) rfl
  rw [List.set_set, hl] at st
  exact st

set_option maxRecDepth 100000 in
set_option maxHeartbeats 4000000 in
theorem markItemS_put (l : List Itm) (v : Value) (k B : Nat) (w0 w : World) (h : RBuf itE B w0 w v l) (hk : 1 ≤ k) (hk2 : k + 9 * l.length ≤ 1099511627776) :
    Calls Tryz.prog 55 #[v, .int .i64 (k : Int)] w fun e w' => e = .returned (.int .i64 ((k + 9 * l.length : Nat) : Int)) ∧ RBuf itE B w0 w' v (marksI k l.length) ∧ w.grownBy w' v.ownBlock := by
  rcases h.own.2 with ⟨rfl, h0⟩ | ⟨g, cap, cur, rfl, hg, hh, hnc, hcp, hcs, htake⟩
  · obtain rfl := List.length_eq_zero_iff.1 h0
    go_enter Tryz.func55, Tryz.ntmps55
    go_wp2
    go_loop [1, 5] (fun kv iv => kv = .int .i64 (k : Int) ∧ iv = .int .i64 0) (fun _ _ => 0)
    case atStart => exact ⟨rfl, rfl⟩
    case round =>
      obtain ⟨rfl, rfl⟩ := hrel
      go_wp2
      go_ret
      exact ⟨rfl, h, World.grownBy.refl _ _⟩
  · clear hh hcs htake hcp
    have hle : l.length ≤ 1099511627776 := by omega
    go_enter Tryz.func55, Tryz.ntmps55
    go_wp2
    go_loopw [1, 5] (fun kv iv wr => ∃ i : Nat, i ≤ l.length ∧ iv = .int .i64 (i : Int) ∧ kv = .int .i64 ((k + 9 * i : Nat) : Int) ∧ RBuf itE B w0 wr (.slice (some ⟨g, 0, none⟩) l.length cap) (putTo (markI k) l i) ∧ w.grownBy wr (some g)) (fun _ iv _ => l.length - (intOf iv).toNat)
    case atStart => exact ⟨0, by omega, rfl, rfl, by rw [putTo_zero]; exact h, World.grownBy.refl _ _⟩
    case round =>
      obtain ⟨i, hi, rfl, rfl, hbr, hG⟩ := hrel
      by_cases hlt : i < l.length
      · have hi0 : (0 : Int) ≤ (i : Int) := by omega
        have hi1 : (i : Int) < (l.length : Int) := by omega
        obtain ⟨K, hK⟩ : ∃ K : Nat, K = k + 9 * i := ⟨_, rfl⟩
        have HK := Lib.hid hK
        rw [← hK]
        have hK1 : K + 9 ≤ 4611686018427387904 := by omega
        have hK2 : 1 ≤ K := by omega
        clear hK
        have R := RMI.start hbr hlt
        generalize l[i] = x at R
        obtain ⟨z0, z1, z2, z3, z4, z5, z6, z7, z8⟩ := x
        obtain ⟨c0, f0, R0⟩ := R.at0
        have R0' : RMI B w0 (wr.setCell ⟨g, i * 9, none⟩ (.int .i64 (K : Int))) g cap k l i ((K : Int), ⟨z1, z2, z3, z4, z5, z6, z7, z8⟩) := R0 _
        have G0 : w.grownBy (wr.setCell ⟨g, i * 9, none⟩ (.int .i64 (K : Int))) (some g) := hG.trans (grownBy_store _ g (i * 9) (.int .i64 (K : Int)))
        obtain ⟨c1, f1, R1⟩ := R0'.at1
        have R1' : RMI B w0 ((wr.setCell ⟨g, i * 9, none⟩ (.int .i64 (K : Int))).setCell ⟨g, i * 9 + 1, none⟩ (.int .i64 ((K : Int) + 1))) g cap k l i ((K : Int), ⟨((K : Int) + 1), z2, z3, z4, z5, z6, z7, z8⟩) := R1 _
        have G1 : w.grownBy ((wr.setCell ⟨g, i * 9, none⟩ (.int .i64 (K : Int))).setCell ⟨g, i * 9 + 1, none⟩ (.int .i64 ((K : Int) + 1))) (some g) := G0.trans (grownBy_store _ g (i * 9 + 1) (.int .i64 ((K : Int) + 1)))
        obtain ⟨c2, f2, R2⟩ := R1'.at2
        have R2' : RMI B w0 (((wr.setCell ⟨g, i * 9, none⟩ (.int .i64 (K : Int))).setCell ⟨g, i * 9 + 1, none⟩ (.int .i64 ((K : Int) + 1))).setCell ⟨g, i * 9 + 2, none⟩ (.int .i64 ((K : Int) + 1 + 1))) g cap k l i ((K : Int), ⟨((K : Int) + 1), ((K : Int) + 1 + 1), z3, z4, z5, z6, z7, z8⟩) := R2 _
        have G2 : w.grownBy (((wr.setCell ⟨g, i * 9, none⟩ (.int .i64 (K : Int))).setCell ⟨g, i * 9 + 1, none⟩ (.int .i64 ((K : Int) + 1))).setCell ⟨g, i * 9 + 2, none⟩ (.int .i64 ((K : Int) + 1 + 1))) (some g) := G1.trans (grownBy_store _ g (i * 9 + 2) (.int .i64 ((K : Int) + 1 + 1)))
        obtain ⟨c3, f3, R3⟩ := R2'.at3
        have R3' : RMI B w0 ((((wr.setCell ⟨g, i * 9, none⟩ (.int .i64 (K : Int))).setCell ⟨g, i * 9 + 1, none⟩ (.int .i64 ((K : Int) + 1))).setCell ⟨g, i * 9 + 2, none⟩ (.int .i64 ((K : Int) + 1 + 1))).setCell ⟨g, i * 9 + 3, none⟩ (.int .i64 ((K : Int) + 1 + 1 + 1))) g cap k l i ((K : Int), ⟨((K : Int) + 1), ((K : Int) + 1 + 1), ((K : Int) + 1 + 1 + 1), z4, z5, z6, z7, z8⟩) := R3 _
        have G3 : w.grownBy ((((wr.setCell ⟨g, i * 9, none⟩ (.int .i64 (K : Int))).setCell ⟨g, i * 9 + 1, none⟩ (.int .i64 ((K : Int) + 1))).setCell ⟨g, i * 9 + 2, none⟩ (.int .i64 ((K : Int) + 1 + 1))).setCell ⟨g, i * 9 + 3, none⟩ (.int .i64 ((K : Int) + 1 + 1 + 1))) (some g) := G2.trans (grownBy_store _ g (i * 9 + 3) (.int .i64 ((K : Int) + 1 + 1 + 1)))
        obtain ⟨c4, f4, R4⟩ := R3'.at4
        have R4' : RMI B w0 (((((wr.setCell ⟨g, i * 9, none⟩ (.int .i64 (K : Int))).setCell ⟨g, i * 9 + 1, none⟩ (.int .i64 ((K : Int) + 1))).setCell ⟨g, i * 9 + 2, none⟩ (.int .i64 ((K : Int) + 1 + 1))).setCell ⟨g, i * 9 + 3, none⟩ (.int .i64 ((K : Int) + 1 + 1 + 1))).setCell ⟨g, i * 9 + 4, none⟩ (.int .i64 ((K : Int) + 1 + 1 + 1 + 1))) g cap k l i ((K : Int), ⟨((K : Int) + 1), ((K : Int) + 1 + 1), ((K : Int) + 1 + 1 + 1), ((K : Int) + 1 + 1 + 1 + 1), z5, z6, z7, z8⟩) := R4 _
        have G4 : w.grownBy (((((wr.setCell ⟨g, i * 9, none⟩ (.int .i64 (K : Int))).setCell ⟨g, i * 9 + 1, none⟩ (.int .i64 ((K : Int) + 1))).setCell ⟨g, i * 9 + 2, none⟩ (.int .i64 ((K : Int) + 1 + 1))).setCell ⟨g, i * 9 + 3, none⟩ (.int .i64 ((K : Int) + 1 + 1 + 1))).setCell ⟨g, i * 9 + 4, none⟩ (.int .i64 ((K : Int) + 1 + 1 + 1 + 1))) (some g) := G3.trans (grownBy_store _ g (i * 9 + 4) (.int .i64 ((K : Int) + 1 + 1 + 1 + 1)))
        obtain ⟨c5, f5, R5⟩ := R4'.at5
        have R5' : RMI B w0 ((((((wr.setCell ⟨g, i * 9, none⟩ (.int .i64 (K : Int))).setCell ⟨g, i * 9 + 1, none⟩ (.int .i64 ((K : Int) + 1))).setCell ⟨g, i * 9 + 2, none⟩ (.int .i64 ((K : Int) + 1 + 1))).setCell ⟨g, i * 9 + 3, none⟩ (.int .i64 ((K : Int) + 1 + 1 + 1))).setCell ⟨g, i * 9 + 4, none⟩ (.int .i64 ((K : Int) + 1 + 1 + 1 + 1))).setCell ⟨g, i * 9 + 5, none⟩ (.int .i64 ((K : Int) + 1 + 1 + 1 + 1 + 1))) g cap k l i ((K : Int), ⟨((K : Int) + 1), ((K : Int) + 1 + 1), ((K : Int) + 1 + 1 + 1), ((K : Int) + 1 + 1 + 1 + 1), ((K : Int) + 1 + 1 + 1 + 1 + 1), z6, z7, z8⟩) := R5 _
        have G5 : w.grownBy ((((((wr.setCell ⟨g, i * 9, none⟩ (.int .i64 (K : Int))).setCell ⟨g, i * 9 + 1, none⟩ (.int .i64 ((K : Int) + 1))).setCell ⟨g, i * 9 + 2, none⟩ (.int .i64 ((K : Int) + 1 + 1))).setCell ⟨g, i * 9 + 3, none⟩ (.int .i64 ((K : Int) + 1 + 1 + 1))).setCell ⟨g, i * 9 + 4, none⟩ (.int .i64 ((K : Int) + 1 + 1 + 1 + 1))).setCell ⟨g, i * 9 + 5, none⟩ (.int .i64 ((K : Int) + 1 + 1 + 1 + 1 + 1))) (some g) := G4.trans (grownBy_store _ g (i * 9 + 5) (.int .i64 ((K : Int) + 1 + 1 + 1 + 1 + 1)))
        clear R0 R1 R2 R3 R4 R5 R0' R1' R2' R3' R4' G0 G1 G2 G3 G4 R hG hbr
        go_wp2_with fail
        clear c0 f0 c1 f1 c2 f2 c3 f3 c4 f4 c5 f5
        generalize ((((((wr.setCell ⟨g, i * 9, none⟩ (.int .i64 (K : Int))).setCell ⟨g, i * 9 + 1, none⟩ (.int .i64 ((K : Int) + 1))).setCell ⟨g, i * 9 + 2, none⟩ (.int .i64 ((K : Int) + 1 + 1))).setCell ⟨g, i * 9 + 3, none⟩ (.int .i64 ((K : Int) + 1 + 1 + 1))).setCell ⟨g, i * 9 + 4, none⟩ (.int .i64 ((K : Int) + 1 + 1 + 1 + 1))).setCell ⟨g, i * 9 + 5, none⟩ (.int .i64 ((K : Int) + 1 + 1 + 1 + 1 + 1))) = X5 at R5' G5 ⊢
        refine (markText_at _ (K + 6) _ (by omega) (by omega) (by omega)).mono ?_
        rintro e w6 ⟨rfl, k6⟩
        obtain ⟨c6, f6, R6⟩ := (R5'.later k6).at6
        have R6' := R6 (mark (K + 6))
        have G6 := (G5.trans (grownBy_of_below k6 (some g))).trans (grownBy_store w6 g (i * 9 + 6) (.string (mark (K + 6))))
        clear R5' G5 k6 R6
        go_wp2_with fail
        clear c6 f6
        generalize w6.setCell ⟨g, i * 9 + 6, none⟩ (.string (mark (K + 6))) = X6 at R6' G6 ⊢
        refine (markText_at _ (K + 7) _ (by omega) (by omega) (by omega)).mono ?_
        rintro e w7 ⟨rfl, k7⟩
        obtain ⟨c7, f7, R7⟩ := (R6'.later k7).at7
        have R7' := R7 (mark (K + 7))
        have G7 := (G6.trans (grownBy_of_below k7 (some g))).trans (grownBy_store w7 g (i * 9 + 7) (.string (mark (K + 7))))
        clear R6' G6 k7 R7
        go_wp2_with fail
        clear c7 f7
        generalize w7.setCell ⟨g, i * 9 + 7, none⟩ (.string (mark (K + 7))) = X7 at R7' G7 ⊢
        refine (markText_at _ (K + 8) _ (by omega) (by omega) (by omega)).mono ?_
        rintro e w8 ⟨rfl, k8⟩
        obtain ⟨c8, f8, R8⟩ := (R7'.later k8).at8
        have R8' := R8 (mark (K + 8))
        have G8 := (G7.trans (grownBy_of_below k8 (some g))).trans (grownBy_store w8 g (i * 9 + 8) (.string (mark (K + 8))))
        clear R7' G7 k8 R8
        have RF := Lib.hid (R8'.done (by rw [HK.out]; rfl))
        have GF := Lib.hid G8
        clear R8' G8
        go_wp2
        exact ⟨⟨i + 1, by omega, by simp, by rw [HK.out]; first | go_num | (congr 1; omega), RF.out, GF.out⟩, by first | omega | (simp [intOf]; omega)⟩
      · have hfin : Hid (i = l.length) := by show i = l.length; omega
        go_wp2
        go_ret
        refine ⟨?_, ?_, hG⟩
        · rw [← hfin.out]; rfl
        · have := hbr
          rw [hfin.out, putTo_all] at this
          exact this

set_option maxRecDepth 100000 in
set_option maxHeartbeats 4000000 in
theorem heldItemS_any (n : Nat) (v : Value) (k : Nat) (w : World) (hb : Rows' itE w v (marksI k n)) (hk : 1 ≤ k) (hk2 : k + 9 * n ≤ 1099511627776) :
    Calls Tryz.prog 58 #[v, .int .i64 (k : Int)] w fun e w' => e = .returned (.int .i64 ((k + 9 * n : Nat) : Int)) ∧ Below w.heap.size w w' := by
  have hmn := marksI_length k n
  rcases hb.ways with ⟨h0, a, c, rfl⟩ | ⟨hne, g, off, cap, rfl, hca, hg, hcl⟩
  · obtain rfl : n = 0 := by rw [h0] at hmn; simpa using hmn.symm
    clear hb h0 hmn
    go_enter Tryz.func58, Tryz.ntmps58
    go_wp2
    go_loop [1, 5] (fun kv iv => kv = .int .i64 (k : Int) ∧ iv = .int .i64 0) (fun _ _ => 0)
    case atStart => exact ⟨rfl, rfl⟩
    case round =>
      obtain ⟨rfl, rfl⟩ := hrel
      go_wp2
      go_ret
      exact ⟨rfl, Below.refl _ _⟩
  · rw [hmn] at *
    have HC := Lib.hid hcl
    clear hcl hb hne hmn
    go_enter Tryz.func58, Tryz.ntmps58
    go_wp2
    go_loopw [1, 5] (fun kv iv wr => ∃ i : Nat, i ≤ n ∧ iv = .int .i64 (i : Int) ∧ kv = .int .i64 ((k + 9 * i : Nat) : Int) ∧ Below w.heap.size w wr) (fun _ iv _ => n - (intOf iv).toNat)
    case atStart => exact ⟨0, by omega, rfl, rfl, Below.refl _ _⟩
    case round =>
      obtain ⟨i, hi, rfl, rfl, hbel⟩ := hrel
      by_cases hlt : i < n
      · have hi0 : (0 : Int) ≤ (i : Int) := by omega
        have hi1 : (i : Int) < (n : Int) := by omega
        obtain ⟨K, hK⟩ : ∃ K : Nat, K = k + 9 * i := ⟨_, rfl⟩
        have HK := Lib.hid hK
        obtain ⟨t6, ht60⟩ : ∃ t, mark (K + 6) = t := ⟨_, rfl⟩
        have ht6 := Lib.hid ht60
        obtain ⟨t7, ht70⟩ : ∃ t, mark (K + 7) = t := ⟨_, rfl⟩
        have ht7 := Lib.hid ht70
        obtain ⟨t8, ht80⟩ : ∃ t, mark (K + 8) = t := ⟨_, rfl⟩
        have ht8 := Lib.hid ht80
        have HS : Hid (∀ x, Below w.heap.size w x → x.cell? ⟨g, off + i * 9, none⟩ = some (.int .i64 (K : Int)) ∧ x.cell? ⟨g, off + i * 9 + 1, none⟩ = some (.int .i64 ((K : Int) + 1)) ∧ x.cell? ⟨g, off + i * 9 + 2, none⟩ = some (.int .i64 ((K : Int) + 1 + 1)) ∧ x.cell? ⟨g, off + i * 9 + 3, none⟩ = some (.int .i64 ((K : Int) + 1 + 1 + 1)) ∧ x.cell? ⟨g, off + i * 9 + 4, none⟩ = some (.int .i64 ((K : Int) + 1 + 1 + 1 + 1)) ∧ x.cell? ⟨g, off + i * 9 + 5, none⟩ = some (.int .i64 ((K : Int) + 1 + 1 + 1 + 1 + 1)) ∧ x.cell? ⟨g, off + i * 9 + 6, none⟩ = some (.string t6) ∧ x.cell? ⟨g, off + i * 9 + 7, none⟩ = some (.string t7) ∧ x.cell? ⟨g, off + i * 9 + 8, none⟩ = some (.string t8)) := by
          intro x hx
          obtain ⟨c0, c1, c2, c3, c4, c5, c6, c7, c8⟩ := it_cells HC.out hg hx i _ (marksI_at hlt)
          simp only [markI] at c0 c1 c2 c3 c4 c5 c6 c7 c8
          rw [← hK] at c0 c1 c2 c3 c4 c5 c6 c7 c8
          rw [ht60] at c6
          rw [ht70] at c7
          rw [ht80] at c8
          exact ⟨c0, by rw [c1]; first | rfl | (congr 2; omega), by rw [c2]; first | rfl | (congr 2; omega), by rw [c3]; first | rfl | (congr 2; omega), by rw [c4]; first | rfl | (congr 2; omega), by rw [c5]; first | rfl | (congr 2; omega), c6, c7, c8⟩
        rw [← hK]
        have hK1 : K + 9 ≤ 4611686018427387904 := by omega
        have hK2 : 1 ≤ K := by omega
        clear hK ht60 ht70 ht80
        obtain ⟨c0, c1, c2, c3, c4, c5, c6, c7, c8⟩ := HS.out _ hbel
        go_wp2
        have HT6 : Hid (∀ x, Below wr.drew.heap.size wr.drew x → x.cell? ⟨g, off + i * 9 + 6, none⟩ = some (.string t6) ∧ Below w.heap.size w x) := fun x hx => by
          have hx2 : Below w.heap.size w x := hbel.drew.trans (hx.mono hbel.size)
          obtain ⟨c0, c1, c2, c3, c4, c5, c6, c7, c8⟩ := HS.out _ hx2
          exact ⟨c6, hx2⟩
        go_region_held3 (fun x => x.cell? ⟨g, off + i * 9 + 6, none⟩ = some (.string t6))
          (first | go_keep | exact (HT6.out _ hb6).1)
          (first | (go_at_call 82; refine (markText_at _ (K + 6) _ (by omega) (by omega) (by omega)).mono ?_; rintro e w6 ⟨rfl, hb6⟩; rw [ht6.out]))
        all_goals
          have bel6 := (HT6.out _ hb6).2
          obtain ⟨c0, c1, c2, c3, c4, c5, c6, c7, c8⟩ := HS.out _ bel6
          clear HT6 hb6
          go_wp2
          have HT7 : Hid (∀ x, Below w6.drew.heap.size w6.drew x → x.cell? ⟨g, off + i * 9 + 7, none⟩ = some (.string t7) ∧ Below w.heap.size w x) := fun x hx => by
            have hx2 : Below w.heap.size w x := bel6.drew.trans (hx.mono bel6.size)
            obtain ⟨c0, c1, c2, c3, c4, c5, c6, c7, c8⟩ := HS.out _ hx2
            exact ⟨c7, hx2⟩
          go_region_held3 (fun x => x.cell? ⟨g, off + i * 9 + 7, none⟩ = some (.string t7))
            (first | go_keep | exact (HT7.out _ hb7).1)
            (first | (go_at_call 82; refine (markText_at _ (K + 7) _ (by omega) (by omega) (by omega)).mono ?_; rintro e w7 ⟨rfl, hb7⟩; rw [ht7.out]))
          all_goals
            have bel7 := (HT7.out _ hb7).2
            obtain ⟨c0, c1, c2, c3, c4, c5, c6, c7, c8⟩ := HS.out _ bel7
            clear HT7 hb7
            go_wp2
            have HT8 : Hid (∀ x, Below w7.drew.heap.size w7.drew x → x.cell? ⟨g, off + i * 9 + 8, none⟩ = some (.string t8) ∧ Below w.heap.size w x) := fun x hx => by
              have hx2 : Below w.heap.size w x := bel7.drew.trans (hx.mono bel7.size)
              obtain ⟨c0, c1, c2, c3, c4, c5, c6, c7, c8⟩ := HS.out _ hx2
              exact ⟨c8, hx2⟩
            go_region_held3 (fun x => x.cell? ⟨g, off + i * 9 + 8, none⟩ = some (.string t8))
              (first | go_keep | exact (HT8.out _ hb8).1)
              (first | (go_at_call 82; refine (markText_at _ (K + 8) _ (by omega) (by omega) (by omega)).mono ?_; rintro e w8 ⟨rfl, hb8⟩; rw [ht8.out]))
            all_goals
              have bel8 := (HT8.out _ hb8).2
              go_wp2
              go_roundw
              case rel => exact ⟨i + 1, by omega, by go_num, by rw [HK.out]; go_num, bel8⟩
              case measure => simp [intOf]; omega
      · have hfin : Hid (i = n) := by show i = n; omega
        go_wp2
        go_ret
        exact ⟨by rw [← hfin.out]; rfl, hbel⟩

end Go.Proofs.YtgcnebepklelpaaGreatDoor

/- How segments lie in memory: a row of segments, each with a row of items of its own. -/
namespace Go.Proofs.YtgcnebepklelpaaGreatDoor
open Go.RowKit

structure Sg where
  no : Int
  gen : Int
  ende : Int
  items : List Itm

structure SgH where
  no : Int
  gen : Int
  ende : Int
  a : Option Addr
  n : Nat
  c : Nat
def SgH.mv (h : SgH) : Value := .slice h.a h.n h.c

def sgE : Enc SgH where
  ty := 76
  sty := 26
  sz := 4
  bytes := 48
  zero := .agg #[.int .i64 0, .int .i64 0, .int .i64 0, .slice none 0 0]
  f := fun x => [.int .i64 x.no, .int .i64 x.gen, .int .i64 x.ende, .slice x.a x.n x.c]
  len := fun _ => rfl
  pos := by decide
  one := fun _ u hu => by simp at hu; rcases hu with rfl | rfl | rfl | rfl <;> rfl
  und := Tryz.underlying26
  info := by kernel_rfl
  zc := rfl
  z0 := ⟨0, 0, 0, none, 0, 0⟩
  zf := rfl

structure SgO (B : Nat) (w : World) (v : Value) (bs : List Sg) (hs : List SgH) : Prop where
  row : RBuf sgE B w w v hs
  len : hs.length = bs.length
  at' : ∀ (j : Nat) (h : SgH) (b : Sg), hs[j]? = some h → bs[j]? = some b → (h.no = b.no ∧ h.gen = b.gen ∧ h.ende = b.ende) ∧ RBuf itE B w w h.mv b.items
  far : ∀ (j : Nat) (h : SgH), hs[j]? = some h → ∀ k, h.mv.ownBlock = some k → v.ownBlock ≠ some k
  apart : ∀ (i j : Nat) (h h' : SgH), hs[i]? = some h → hs[j]? = some h' → i ≠ j → ∀ k, h.mv.ownBlock = some k → h'.mv.ownBlock ≠ some k

theorem RBuf.hereG {α : Type} {E : Enc α} {B : Nat} {w0 w w' : World} {v : Value} {l : List α} (h : RBuf E B w0 w v l) (hb : Below w.heap.size w w') : RBuf E B w' w' v l := (h.later hb).here
theorem SgO.later {B : Nat} {w w' : World} {v : Value} {bs : List Sg} {hs : List SgH} (h : SgO B w v bs hs) (hb : Below w.heap.size w w') : SgO B w' v bs hs :=
  ⟨h.row.hereG hb, h.len, fun j x b h1 h2 => ⟨(h.at' j x b h1 h2).1, (h.at' j x b h1 h2).2.hereG hb⟩, h.far, h.apart⟩
theorem SgO.nil (w : World) : SgO w.heap.size w (.slice none 0 0) [] [] :=
  ⟨RBuf.nil sgE w, rfl, fun j h b h1 => by simp at h1, fun j h h1 => by simp at h1, fun i j h h' h1 => by simp at h1⟩
theorem SgO.lt {B : Nat} {w : World} {v : Value} {bs : List Sg} {hs : List SgH} (h : SgO B w v bs hs) {j : Nat} {x : SgH} (hj : hs[j]? = some x) {k : Nat} (hk : x.mv.ownBlock = some k) : k < w.heap.size := by
  have hl : j < hs.length := (List.getElem?_eq_some_iff.1 hj).1
  have hb : bs[j]? = some (bs[j]'(by rw [← h.len]; exact hl)) := List.getElem?_eq_getElem _
  exact ((h.at' j x _ hj hb).2.own.lt k hk).2

theorem SgO.push {B : Nat} {w w' : World} {v v' : Value} {bs : List Sg} {hs : List SgH} (h : SgO B w v bs hs) (b : Sg) (x : SgH)
    (hx : x.no = b.no ∧ x.gen = b.gen ∧ x.ende = b.ende) (hm : RBuf itE B w w x.mv b.items)
    (hv : ∀ k, x.mv.ownBlock = some k → v.ownBlock ≠ some k) (ho : ∀ (j : Nat) (y : SgH), hs[j]? = some y → ∀ k, y.mv.ownBlock = some k → x.mv.ownBlock ≠ some k)
    (hr : RBuf sgE B w' w' v' (hs ++ [x])) (hg : w.grownBy w' v.ownBlock) (ha : v'.ownBlock = v.ownBlock ∨ v'.ownBlock = some w.heap.size) : SgO B w' v' (bs ++ [b]) (hs ++ [x]) := by
  have kept : ∀ (m : Value) (l : List Itm), RBuf itE B w w m l → (∀ k, m.ownBlock = some k → v.ownBlock ≠ some k) → RBuf itE B w' w' m l := fun m l hm hf => by
    refine hm.shift hg ?_
    cases hmb : m.ownBlock with
    | none => exact .inl rfl
    | some k => exact .inr (fun e => hf k hmb e.symm)
  have old : ∀ {j : Nat} {y : SgH}, (hs ++ [x])[j]? = some y → (hs[j]? = some y ∧ j < hs.length) ∨ (j = hs.length ∧ y = x) := fun {j y} hj => by
    by_cases c : j < hs.length
    · rw [List.getElem?_append_left c] at hj
      exact .inl ⟨hj, c⟩
    · rw [List.getElem?_append_right (by omega)] at hj
      have hj0 : j - hs.length = 0 := by
        have := (List.getElem?_eq_some_iff.1 hj).1
        simp at this; omega
      rw [hj0] at hj
      simp at hj
      exact .inr ⟨by omega, hj.symm⟩
  have hvlt : ∀ {k : Nat}, x.mv.ownBlock = some k → k < w.heap.size := fun {k} hk => (hm.own.lt k hk).2
  refine ⟨hr, by simp [h.len], fun j y c h1 h2 => ?_, fun j y h1 k hk => ?_, fun i j y z h1 h2 hij k hk => ?_⟩
  · rcases old h1 with ⟨h3, hl⟩ | ⟨rfl, rfl⟩
    · rw [List.getElem?_append_left (by rw [← h.len]; exact hl)] at h2
      exact ⟨(h.at' j y c h3 h2).1, kept _ _ (h.at' j y c h3 h2).2 (h.far j y h3)⟩
    · rw [List.getElem?_append_right (by rw [h.len]; omega), h.len] at h2
      simp at h2
      subst h2
      exact ⟨hx, kept _ _ hm hv⟩
  · rcases old h1 with ⟨h3, _⟩ | ⟨_, rfl⟩
    · rcases ha with e | e
      · rw [e]; exact h.far j y h3 k hk
      · rw [e]; intro e2; have := h.lt h3 hk; have := Option.some.inj e2; omega
    · rcases ha with e | e
      · rw [e]; exact hv k hk
      · rw [e]; intro e2; have := hvlt hk; have := Option.some.inj e2; omega
  · rcases old h1 with ⟨h3, hl3⟩ | ⟨ei, rfl⟩
    · rcases old h2 with ⟨h4, _⟩ | ⟨_, rfl⟩
      · exact h.apart i j y z h3 h4 hij k hk
      · exact ho i y h3 k hk
    · rcases old h2 with ⟨h4, _⟩ | ⟨ej, _⟩
      · intro e; exact ho j z h4 k e hk
      · omega
theorem SgO.shift {B : Nat} {w w' : World} {v : Value} {bs : List Sg} {hs : List SgH} {r : Option Nat} (h : SgO B w v bs hs) (hg : w.grownBy w' r) (h1 : ∀ k, r = some k → v.ownBlock ≠ some k ∧ ∀ (j : Nat) (x : SgH), hs[j]? = some x → x.mv.ownBlock ≠ some k) : SgO B w' v bs hs := by
  have sh : ∀ {α : Type} {E : Enc α} {m : Value} {l : List α}, RBuf E B w w m l → (∀ k, r = some k → m.ownBlock ≠ some k) → RBuf E B w' w' m l := fun {α E m l} hm hf => by
    refine hm.shift hg ?_
    cases hb : m.ownBlock with
    | none => exact .inl rfl
    | some k => exact .inr (fun e => hf k e.symm hb)
  exact ⟨sh h.row (fun k hk => (h1 k hk).1), h.len, fun j x b e1 e2 => ⟨(h.at' j x b e1 e2).1, sh (h.at' j x b e1 e2).2 (fun k hk => (h1 k hk).2 j x e1)⟩, h.far, h.apart⟩
theorem SgO.where' {B : Nat} {w : World} {v : Value} {bs : List Sg} {hs : List SgH} (h : SgO B w v bs hs) : (∀ k, v.ownBlock = some k → B ≤ k ∧ k < w.heap.size) ∧ ∀ (j : Nat) (x : SgH), hs[j]? = some x → ∀ k, x.mv.ownBlock = some k → B ≤ k ∧ k < w.heap.size := by
  refine ⟨fun k hk => h.row.own.lt k hk, fun j x hj k hk => ?_⟩
  have hl : j < hs.length := (List.getElem?_eq_some_iff.1 hj).1
  have hb : bs[j]? = some (bs[j]'(by rw [← h.len]; exact hl)) := List.getElem?_eq_getElem _
  exact (h.at' j x _ hj hb).2.own.lt k hk
theorem SgO.under {B C : Nat} {w w' : World} {v : Value} {bs : List Sg} {hs : List SgH} (h : SgO B w v bs hs) (hb : Below C w w') (h1 : ∀ k, v.ownBlock = some k → k < C) (h2 : ∀ (j : Nat) (x : SgH), hs[j]? = some x → ∀ k, x.mv.ownBlock = some k → k < C) : SgO B w' v bs hs := by
  have sh : ∀ {α : Type} {E : Enc α} {m : Value} {l : List α}, RBuf E B w w m l → (∀ k, m.ownBlock = some k → k < C) → RBuf E B w' w' m l := fun {α E m l} hm hf => by
    refine ⟨⟨hm.own.1, ?_⟩, Below.refl _ _, Nat.le_trans hm.le hb.size⟩
    rcases hm.own.2 with e | ⟨g, cap, cur, rfl, hg, hh, hrest⟩
    · exact .inl e
    · exact .inr ⟨g, cap, cur, rfl, hg, (hb.block g (hf g rfl)).trans hh, hrest⟩
  exact ⟨sh h.row h1, h.len, fun j x b e1 e2 => ⟨(h.at' j x b e1 e2).1, sh (h.at' j x b e1 e2).2 (h2 j x e1)⟩, h.far, h.apart⟩
theorem SgO.lower {B B0 : Nat} {w : World} {v : Value} {bs : List Sg} {hs : List SgH} (h : SgO B w v bs hs) (hB : B0 ≤ B) : SgO B0 w v bs hs :=
  ⟨h.row.lower hB, h.len, fun j x b h1 h2 => ⟨(h.at' j x b h1 h2).1, (h.at' j x b h1 h2).2.lower hB⟩, h.far, h.apart⟩

end Go.Proofs.YtgcnebepklelpaaGreatDoor
