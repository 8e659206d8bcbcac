/- Texts of our own, joined. -/
import Derived.Test.YtgcnebepklelpaaGreatDoorJc
import Derived.Lib.Hide
import Derived.Test.YtgcnebepklelpaaGreatDoorJb
import Derived.Test.YtgcnebepklelpaaGreatDoorJa
import Derived.Deep.Slices
import Derived.Lib.SmallJoins
import Derived.ProofKit
import Derived.Deep.SlicePairs
import Derived.Deep.QuietTactic
import Derived.BigQuiet
import Derived.OpenShut
import Derived.WalkSmall
/- The helpers of the exact laws over segments: two alike are alike. -/
namespace Go.Proofs.YtgcnebepklelpaaGreatDoor
open Go.RowKit

def GRd (w : World) (v : Value) (bs : List Sg) : Prop := ∃ hs : List SgH, Rows' sgE w v hs ∧ hs.length = bs.length ∧
  ∀ (j : Nat) (h : SgH) (b : Sg), hs[j]? = some h → bs[j]? = some b → (h.no = b.no ∧ h.gen = b.gen ∧ h.ende = b.ende) ∧ Rows' itE w h.mv b.items
theorem SgO.rd {B : Nat} {w : World} {v : Value} {bs : List Sg} {hs : List SgH} (h : SgO B w v bs hs) : GRd w v bs :=
  ⟨hs, h.row.rows, h.len, fun j x b h1 h2 => ⟨(h.at' j x b h1 h2).1, (h.at' j x b h1 h2).2.rows⟩⟩
theorem GRd.later {w w' : World} {v : Value} {bs : List Sg} (h : GRd w v bs) (hb : Below w.heap.size w w') : GRd w' v bs := by
  obtain ⟨hs, h1, h2, h3⟩ := h
  exact ⟨hs, h1.later hb, h2, fun j x b e1 e2 => ⟨(h3 j x b e1 e2).1, (h3 j x b e1 e2).2.later hb⟩⟩
theorem GRd.segs {w : World} {v : Value} {bs : List Sg} (h : GRd w v bs) : ∃ (ad : Option Addr) (cap : Nat), v = .slice ad bs.length cap ∧ ∀ X, Below w.heap.size w X → ∀ (i : Nat) (b : Sg), bs[i]? = some b → ∃ (g off : Nat) (a : Option Addr) (n c : Nat), ad = some ⟨g, off, none⟩ ∧
    X.cell? ⟨g, off + i * 4, none⟩ = some (.int .i64 b.no) ∧ X.cell? ⟨g, off + i * 4 + 1, none⟩ = some (.int .i64 b.gen) ∧ X.cell? ⟨g, off + i * 4 + 2, none⟩ = some (.int .i64 b.ende) ∧ X.cell? ⟨g, off + i * 4 + 3, none⟩ = some (.slice a n c) ∧ Rows' itE w (.slice a n c) b.items := by
  obtain ⟨hs, h1, h2, h3⟩ := h
  rcases h1.ways with ⟨rfl, a, c, rfl⟩ | ⟨hne, g, off, c, rfl, hc, hg, hcl⟩
  · have : bs = [] := by rw [← List.length_eq_zero_iff, ← h2]; rfl
    subst this
    exact ⟨a, c, rfl, fun X _ i b hi => by cases hi⟩
  · refine ⟨_, c, by rw [h2], fun X hb i b hi => ?_⟩
    have hl : i < hs.length := by rw [h2]; exact (List.getElem?_eq_some_iff.1 hi).1
    have hx : hs[i]? = some hs[i] := List.getElem?_eq_getElem hl
    obtain ⟨⟨e1, e2, e3⟩, hm⟩ := h3 i _ b hx hi
    have hk : ∀ k u, (sgE.f hs[i])[k]? = some u → X.cell? ⟨g, off + i * 4 + k, none⟩ = some u := fun k u hu => (hb.cell (p := ⟨g, off + i * 4 + k, none⟩) hg).trans (hcl i _ hx k u hu)
    refine ⟨g, off, hs[i].a, hs[i].n, hs[i].c, rfl, ?_, ?_, ?_, hk 3 _ rfl, hm⟩
    · rw [← e1]; exact hk 0 _ rfl
    · rw [← e2]; exact hk 1 _ rfl
    · rw [← e3]; exact hk 2 _ rfl

set_option maxRecDepth 100000 in
set_option maxHeartbeats 1000000 in
theorem eqSeg_same (b : Sg) (a1 a2 : Option Addr) (n1 n2 c1 c2 : Nat) (w : World) (ha : Rows' itE w (.slice a1 n1 c1) b.items) (hb : Rows' itE w (.slice a2 n2 c2) b.items) (hl : b.items.length ≤ 1099511627776) :
    Calls Tryz.prog 52 #[.agg #[.int .i64 b.no, .int .i64 b.gen, .int .i64 b.ende, .slice a1 n1 c1], .agg #[.int .i64 b.no, .int .i64 b.gen, .int .i64 b.ende, .slice a2 n2 c2]] w fun e w' => e = .returned (.bool true) ∧ Below w.heap.size w w' := by
  have b1 : Below w.heap.size w ((w.alloc (.cells #[.int .i64 b.no, .int .i64 b.gen, .int .i64 b.ende, .slice a1 n1 c1] 76)).alloc (.cells #[.int .i64 b.no, .int .i64 b.gen, .int .i64 b.ende, .slice a2 n2 c2] 76)) := ((Below.refl _ _).alloc (Nat.le_refl _) _).alloc (by simp) _
  have HE := Lib.hid (fun wx (hx : Below w.heap.size w wx) => eqItemS_same b.items _ _ wx (ha.later hx) (hb.later hx) hl)
  clear ha hb
  go_enter Tryz.func52, Tryz.ntmps52
  go_wp2_with (go_at_call 81; refine (HE.out _ b1).mono ?_; rintro e w1 ⟨rfl, k1⟩)
  go_ret
  exact ⟨rfl, b1.trans (k1.mono b1.size)⟩

set_option maxRecDepth 100000 in
set_option maxHeartbeats 2000000 in
theorem eqSegS_same (bs : List Sg) (va vb : Value) (w : World) (ha : GRd w va bs) (hb : GRd w vb bs) (hl : bs.length ≤ 1099511627776) (hm : ∀ b ∈ bs, b.items.length ≤ 1099511627776) :
    Calls Tryz.prog 29 #[va, vb] w fun e w' => e = .returned (.bool true) ∧ Below w.heap.size w w' := by
  obtain ⟨ad, cap, rfl, hrowa⟩ := ha.segs
  obtain ⟨ad2, cap2, rfl, hrowb⟩ := hb.segs
  have HA := Lib.hid hrowa
  have HB := Lib.hid hrowb
  have HM := Lib.hid hm
  clear ha hb hrowa hrowb hm
  go_enter Tryz.func29, Tryz.ntmps29
  go_wp2
  go_loopw [5] (fun iv wr => ∃ i : Nat, i ≤ bs.length ∧ iv = .int .i64 (i : Int) ∧ Below w.heap.size w wr) (fun iv _ => bs.length - (intOf iv).toNat)
  case atStart => exact ⟨0, by omega, rfl, Below.refl _ _⟩
  case round =>
    obtain ⟨i, hi, rfl, hbel⟩ := hrel
    by_cases hlt : i < bs.length
    · have hg : bs[i]? = some bs[i] := List.getElem?_eq_getElem hlt
      have hbd : Below w.heap.size w wr.drew := hbel.drew
      obtain ⟨ga, oa, a1, n1, c1, rfl, p0, p1, p2, p3, ra⟩ := HA.out _ hbd i _ hg
      obtain ⟨gb, ob, a2, n2, c2, rfl, q0, q1, q2, q3, rb⟩ := HB.out _ hbd i _ hg
      have hml := HM.out bs[i] (List.getElem_mem hlt)
      have HS : Hid (∀ X, Below wr.drew.heap.size wr.drew X → X.cell? ⟨ga, oa + i * 4, none⟩ = some (.int .i64 bs[i].no) ∧ X.cell? ⟨ga, oa + i * 4 + 1, none⟩ = some (.int .i64 bs[i].gen) ∧ X.cell? ⟨ga, oa + i * 4 + 2, none⟩ = some (.int .i64 bs[i].ende) ∧ X.cell? ⟨ga, oa + i * 4 + 3, none⟩ = some (.slice a1 n1 c1) ∧
          X.cell? ⟨gb, ob + i * 4, none⟩ = some (.int .i64 bs[i].no) ∧ X.cell? ⟨gb, ob + i * 4 + 1, none⟩ = some (.int .i64 bs[i].gen) ∧ X.cell? ⟨gb, ob + i * 4 + 2, none⟩ = some (.int .i64 bs[i].ende) ∧ X.cell? ⟨gb, ob + i * 4 + 3, none⟩ = some (.slice a2 n2 c2)) := by
        intro X hX
        have cc : ∀ {g o : Nat} {u : Value}, wr.drew.cell? ⟨g, o, none⟩ = some u → X.cell? ⟨g, o, none⟩ = some u := fun {g o u} h => (hX.cell (p := ⟨g, o, none⟩) (World.block_lt_of_cell? _ _ h)).trans h
        exact ⟨cc p0, cc p1, cc p2, cc p3, cc q0, cc q1, cc q2, cc q3⟩
      have HE := Lib.hid (fun wx (hx : Below w.heap.size w wx) => eqSeg_same bs[i] a1 a2 n1 n2 c1 c2 wx (ra.later hx) (rb.later hx) hml)
      generalize bs[i] = b at *
      have hi0 : (0 : Int) ≤ (i : Int) := by omega
      have hi1 : (i : Int) < (bs.length : Int) := by omega
      clear hg ra rb hml
      go_wp2
      go_region_held3 (fun X => X.cell? ⟨ga, oa + i * 4, none⟩ = some (.int .i64 b.no) ∧ X.cell? ⟨ga, oa + i * 4 + 1, none⟩ = some (.int .i64 b.gen) ∧ X.cell? ⟨ga, oa + i * 4 + 2, none⟩ = some (.int .i64 b.ende) ∧ X.cell? ⟨ga, oa + i * 4 + 3, none⟩ = some (.slice a1 n1 c1) ∧
          X.cell? ⟨gb, ob + i * 4, none⟩ = some (.int .i64 b.no) ∧ X.cell? ⟨gb, ob + i * 4 + 1, none⟩ = some (.int .i64 b.gen) ∧ X.cell? ⟨gb, ob + i * 4 + 2, none⟩ = some (.int .i64 b.ende) ∧ X.cell? ⟨gb, ob + i * 4 + 3, none⟩ = some (.slice a2 n2 c2))
        (first | exact HS.out _ (Below.refl _ _) | exact HS.out _ hb1)
        (first | (go_at_call 52; refine (HE.out _ hbd).mono ?_; rintro e w1 ⟨rfl, hb1⟩))
      all_goals
        go_wp2
        go_roundw
        case rel => exact ⟨i + 1, by omega, by go_num, hbd.trans (hb1.mono hbd.size)⟩
        case measure => simp [intOf]; omega
    · go_wp2
      go_ret
      exact ⟨rfl, hbel⟩

end Go.Proofs.YtgcnebepklelpaaGreatDoor

/- The helpers of the exact laws over segments: each is marked, and the marks are held. -/
namespace Go.Proofs.YtgcnebepklelpaaGreatDoor
open Go.RowKit

def markG (k : Nat) (b : Sg) : Sg := ⟨((k : Nat) : Int), ((k + 1 : Nat) : Int), ((k + 2 : Nat) : Int), marksI (k + 3) b.items.length⟩
def kG (k : Nat) (b : Sg) : Nat := k + 3 + 9 * b.items.length
def marksG : Nat → List Sg → List Sg
  | _, [] => []
  | k, b :: bs => markG k b :: marksG (kG k b) bs
def kF : Nat → List Sg → Nat
  | k, [] => k
  | k, b :: bs => kF (kG k b) bs
theorem marksG_length : ∀ (k : Nat) (bs : List Sg), (marksG k bs).length = bs.length
  | _, [] => rfl
  | k, b :: bs => by simp [marksG, marksG_length (kG k b) bs]
theorem kF_le : ∀ (k : Nat) (bs : List Sg), k ≤ kF k bs
  | _, [] => Nat.le_refl _
  | k, b :: bs => by have := kF_le (kG k b) bs; unfold kF; unfold kG at *; omega
theorem kF_take : ∀ (k : Nat) (bs : List Sg) (i : Nat) (b : Sg), bs[i]? = some b → kF k (bs.take (i + 1)) = kG (kF k (bs.take i)) b
  | _, [], i, b, h => by cases h
  | k, c :: bs, 0, b, h => by cases h; rfl
  | k, c :: bs, i + 1, b, h => by
    show kF (kG k c) (bs.take (i + 1)) = kG (kF (kG k c) (bs.take i)) b
    exact kF_take (kG k c) bs i b h
theorem kF_take_le (k : Nat) (bs : List Sg) : ∀ i, kF k (bs.take i) ≤ kF k bs := by
  induction bs generalizing k with
  | nil => intro i; simp [kF]
  | cons b bs ih =>
    intro i
    cases i with
    | zero => exact kF_le k (b :: bs)
    | succ i => exact ih (kG k b) i
theorem marksG_at : ∀ (k : Nat) (bs : List Sg) (i : Nat) (b : Sg), bs[i]? = some b → (marksG k bs)[i]? = some (markG (kF k (bs.take i)) b)
  | _, [], i, b, h => by cases h
  | k, c :: bs, 0, b, h => by cases h; rfl
  | k, c :: bs, i + 1, b, h => by
    show (marksG (kG k c) bs)[i]? = some (markG (kF (kG k c) (bs.take i)) b)
    exact marksG_at (kG k c) bs i b h
def putG (k : Nat) (bs : List Sg) (i : Nat) : List Sg := (marksG k bs).take i ++ bs.drop i
theorem putG_zero (k : Nat) (bs : List Sg) : putG k bs 0 = bs := by simp [putG]
theorem putG_all (k : Nat) (bs : List Sg) : putG k bs bs.length = marksG k bs := by
  unfold putG
  rw [List.take_of_length_le (by rw [marksG_length]; exact Nat.le_refl _), List.drop_length, List.append_nil]
theorem putG_length (k : Nat) (bs : List Sg) (i : Nat) (h : i ≤ bs.length) : (putG k bs i).length = bs.length := by
  unfold putG
  rw [List.length_append, List.length_take, List.length_drop, marksG_length]; omega
theorem putG_at (k : Nat) (bs : List Sg) (i : Nat) (b : Sg) (h : bs[i]? = some b) : (putG k bs i)[i]? = some b := by
  have hl : i < bs.length := (List.getElem?_eq_some_iff.1 h).1
  unfold putG
  rw [List.getElem?_append_right (by rw [List.length_take, marksG_length]; omega), List.length_take, marksG_length, Nat.min_eq_left (Nat.le_of_lt hl), Nat.sub_self, List.getElem?_drop, Nat.add_zero]
  exact h
theorem putG_set (k : Nat) (bs : List Sg) (i : Nat) (b : Sg) (h : bs[i]? = some b) : (putG k bs i).set i (markG (kF k (bs.take i)) b) = putG k bs (i + 1) := by
  have hl : i < bs.length := (List.getElem?_eq_some_iff.1 h).1
  unfold putG
  rw [List.set_append_right _ _ (by rw [List.length_take, marksG_length]; omega)]
  rw [List.length_take, marksG_length, Nat.min_eq_left (Nat.le_of_lt hl), Nat.sub_self, List.drop_eq_getElem_cons hl, List.set_cons_zero, List.take_add_one, marksG_at k bs i b h, List.append_assoc]
  rfl
theorem set_waysG {α : Type} {l : List α} {i j : Nat} {y z : α} (h : (l.set i y)[j]? = some z) : (j = i ∧ z = y) ∨ (j ≠ i ∧ l[j]? = some z) := by
  by_cases c : j = i
  · subst c
    have hl : j < l.length := by have := (List.getElem?_eq_some_iff.1 h).1; simpa using this
    rw [List.getElem?_set_self hl] at h
    exact .inl ⟨rfl, (Option.some.inj h).symm⟩
  · rw [List.getElem?_set_ne (fun e => c e.symm)] at h
    exact .inr ⟨c, h⟩
theorem SgO.store {B : Nat} {w : World} {g n cap : Nat} {bs : List Sg} {hs : List SgH} (h : SgO B w (.slice (some ⟨g, 0, none⟩) n cap) bs hs) (hn : n = hs.length) {i : Nat} {x : SgH} (hx : hs[i]? = some x) {b : Sg} (hb : bs[i]? = some b)
    (c : Nat) (hc : c < 4) (u : Value) (x' : SgH) (hf : sgE.f x' = (sgE.f x).set c u) (hmv : x'.mv = x.mv) (b' : Sg) (hb' : x'.no = b'.no ∧ x'.gen = b'.gen ∧ x'.ende = b'.ende) (hm : b'.items = b.items) :
    SgO B (w.setCell ⟨g, i * 4 + c, none⟩ u) (.slice (some ⟨g, 0, none⟩) n cap) (bs.set i b') (hs.set i x') := by
  subst hn
  have hg := grownBy_store w g (i * 4 + c) u
  have kept : ∀ (m : Value) (l : List Itm), RBuf itE B w w m l → (∀ k, m.ownBlock = some k → (Value.slice (some ⟨g, 0, none⟩) hs.length cap).ownBlock ≠ some k) → RBuf itE B (w.setCell ⟨g, i * 4 + c, none⟩ u) (w.setCell ⟨g, i * 4 + c, none⟩ u) m l := fun m l hm hf => by
    refine hm.shift hg ?_
    cases hmb : m.ownBlock with
    | none => exact .inl rfl
    | some k => exact .inr (fun e => hf k hmb e.symm)
  have hmvs : ∀ {j : Nat} {y : SgH}, (hs.set i x')[j]? = some y → ∃ z, hs[j]? = some z ∧ y.mv = z.mv := fun {j y} hj => by
    rcases set_waysG hj with ⟨rfl, rfl⟩ | ⟨_, hj⟩
    · exact ⟨x, hx, hmv⟩
    · exact ⟨y, hj, rfl⟩
  refine ⟨(h.row.stored i x x' hx c hc u hf).here, by simp [h.len], fun j y d h1 h2 => ?_, fun j y h1 k hk => ?_, fun j k y z h1 h2 hjk q hq => ?_⟩
  · rcases set_waysG h1 with ⟨rfl, rfl⟩ | ⟨hne, h1⟩
    · rcases set_waysG h2 with ⟨_, rfl⟩ | ⟨hne, _⟩
      · refine ⟨hb', ?_⟩
        rw [hmv, hm]
        exact kept _ _ (h.at' j x b hx hb).2 (h.far j x hx)
      · exact absurd rfl hne
    · rcases set_waysG h2 with ⟨e, _⟩ | ⟨_, h2⟩
      · exact absurd e hne
      · exact ⟨(h.at' j y d h1 h2).1, kept _ _ (h.at' j y d h1 h2).2 (h.far j y h1)⟩
  · obtain ⟨z, hz, e⟩ := hmvs h1
    rw [e] at hk
    exact h.far j z hz k hk
  · obtain ⟨y0, hy0, e1⟩ := hmvs h1
    obtain ⟨z0, hz0, e2⟩ := hmvs h2
    rw [e1] at hq
    rw [e2]
    exact h.apart j k y0 z0 hy0 hz0 hjk q hq
theorem SgO.items {B : Nat} {w w' : World} {v : Value} {bs : List Sg} {hs : List SgH} (h : SgO B w v bs hs) {i : Nat} {x : SgH} (hx : hs[i]? = some x) {b : Sg} (hb : bs[i]? = some b) (ms : List Itm) (hr : RBuf itE B w' w' x.mv ms) (hg : w.grownBy w' x.mv.ownBlock) :
    SgO B w' v (bs.set i ⟨b.no, b.gen, b.ende, ms⟩) hs := by
  refine ⟨h.row.shift hg ?_, by simp [h.len], fun j y d h1 h2 => ?_, h.far, h.apart⟩
  · cases hv : x.mv.ownBlock with
    | none =>
      cases hv2 : v.ownBlock with
      | none => exact .inl rfl
      | some k => exact .inr (fun e => by cases e)
    | some k => exact .inr (fun e => h.far i x hx k hv e)
  · rcases set_waysG h2 with ⟨rfl, rfl⟩ | ⟨hne, h2⟩
    · rw [hx] at h1
      cases h1
      exact ⟨(h.at' j x b hx hb).1, hr⟩
    · refine ⟨(h.at' j y d h1 h2).1, (h.at' j y d h1 h2).2.shift hg ?_⟩
      cases hy : y.mv.ownBlock with
      | none => exact .inl rfl
      | some k => exact .inr (fun e => h.apart j i y x h1 hx hne k hy e.symm)
theorem SgO.cellAt {B : Nat} {w : World} {g n cap : Nat} {bs : List Sg} {hs : List SgH} (h : SgO B w (.slice (some ⟨g, 0, none⟩) n cap) bs hs) {i : Nat} {y : SgH} (hy : hs[i]? = some y) (hl : n = hs.length) (q : Nat) (u : Value) (hu : (sgE.f y)[q]? = some u) : w.cell? ⟨g, i * 4 + q, none⟩ = some u ∧ w.frozen? ⟨g, i * 4 + q, none⟩ = false := by
  subst hl
  exact ⟨h.row.cell rfl i y hy q u hu, h.row.loose _⟩

set_option maxRecDepth 100000 in
set_option maxHeartbeats 4000000 in
theorem markSegS_any (bs : List Sg) (v : Value) (k B : Nat) (hs : List SgH) (w : World) (h : SgO B w v bs hs) (_hk : 1 ≤ k) (hk2 : kF k bs ≤ 1099511627776) (hl : bs.length ≤ 1099511627776) :
    Calls Tryz.prog 31 #[v, .int .i64 (k : Int)] w fun e w' => e = .returned (.int .i64 (kF k bs : Int)) ∧ (∃ hs', SgO B w' v (marksG k bs) hs' ∧ ∀ (j : Nat) (y : SgH), hs'[j]? = some y → ∃ x, hs[j]? = some x ∧ y.mv = x.mv) ∧ Below B w w' ∧ (∀ q, q < w.heap.size → v.ownBlock ≠ some q → (∀ (j : Nat) (x : SgH), hs[j]? = some x → x.mv.ownBlock ≠ some q) → w'.heap[q]? = w.heap[q]?) := by
  have hB := h.row.le
  have hl0 := h.len
  rcases h.row.own.2 with ⟨rfl, h0⟩ | ⟨g, cap, cur, rfl, hg, hh, hnc, hcp, hcs, htake⟩
  · obtain rfl := List.length_eq_zero_iff.1 h0
    obtain rfl := List.length_eq_zero_iff.1 hl0.symm
    go_enter Tryz.func31, Tryz.ntmps31
    go_wp2
    go_loop [1, 5] (fun kv iv => kv = .int .i64 (k : Int) ∧ iv = .int .i64 0) (fun _ _ => 0)
    case atStart => exact ⟨rfl, rfl⟩
    case round =>
      obtain ⟨rfl, rfl⟩ := hrel
      go_wp2
      go_ret
      exact ⟨rfl, ⟨[], h, fun j y hy => by cases hy⟩, Below.refl _ _, by intros; rfl⟩
  · clear hh hcs htake hcp
    rw [hl0] at h ⊢
    go_enter Tryz.func31, Tryz.ntmps31
    go_wp2
    go_loopw [1, 5] (fun kv iv wr => ∃ (i : Nat) (hs' : List SgH), i ≤ bs.length ∧ iv = .int .i64 (i : Int) ∧ kv = .int .i64 ((kF k (bs.take i) : Nat) : Int) ∧ SgO B wr (.slice (some ⟨g, 0, none⟩) bs.length cap) (putG k bs i) hs' ∧ Below B w wr ∧ (∀ (j : Nat) (y : SgH), hs'[j]? = some y → ∃ x, hs[j]? = some x ∧ y.mv = x.mv) ∧ ∀ q, q < w.heap.size → q ≠ g → (∀ (j : Nat) (x : SgH), hs[j]? = some x → x.mv.ownBlock ≠ some q) → wr.heap[q]? = w.heap[q]?) (fun _ iv _ => bs.length - (intOf iv).toNat)
    case atStart => exact ⟨0, hs, by omega, rfl, rfl, by rw [putG_zero]; exact h, Below.refl _ _, fun j y hy => ⟨y, hy, rfl⟩, fun _ _ _ _ => rfl⟩
    case round =>
      clear h
      obtain ⟨i, hs', hi, rfl, rfl, S, hb, hmv, hkp⟩ := hrel
      have HMV := Lib.hid hmv
      have HKP := Lib.hid hkp
      clear hmv hkp
      by_cases hlt : i < bs.length
      · have hgb : bs[i]? = some bs[i] := List.getElem?_eq_getElem hlt
        have hpl := putG_length k bs i hi
        have hn : bs.length = hs'.length := by rw [S.len, hpl]
        have hpa := putG_at k bs i _ hgb
        have hx : hs'[i]? = some (hs'[i]'(by omega)) := List.getElem?_eq_getElem (by omega)
        have hset := putG_set k bs i _ hgb
        have hkt := kF_take k bs i _ hgb
        have hkl := kF_take_le k bs (i + 1)
        have hkg := kF_le k (bs.take i)
        generalize bs[i] = b at *
        generalize hs'[i]'(by omega) = x at hx
        obtain ⟨K, hK⟩ : ∃ K, kF k (bs.take i) = K := ⟨_, rfl⟩
        rw [hK] at hset hkt hkg ⊢
        have HK := Lib.hid hkt
        have HSET := Lib.hid hset
        rw [hkt] at hkl
        unfold kG at hkl
        obtain ⟨⟨e1, e2, e3⟩, hmr⟩ := S.at' i x b hx hpa
        clear hset hkt hK hgb
        have hi0 : (0 : Int) ≤ (i : Int) := by omega
        have hi1 : (i : Int) < (bs.length : Int) := by omega
        obtain ⟨xv, xu, xn, xa, xl, xc⟩ := x
        simp only at e1 e2 e3
        have hn1 : ∀ y : SgH, bs.length = (hs'.set i y).length := fun y => by simp; omega
        have hil : i < hs'.length := by omega
        have hip : i < (putG k bs i).length := by omega
        have gx : ∀ y : SgH, (hs'.set i y)[i]? = some y := fun y => List.getElem?_set_self hil
        have gb : ∀ y : Sg, ((putG k bs i).set i y)[i]? = some y := fun y => List.getElem?_set_self hip
        have S1 : SgO B (wr.setCell ⟨g, i * 4, none⟩ (.int .i64 (K : Int))) (.slice (some ⟨g, 0, none⟩) bs.length cap) ((putG k bs i).set i ⟨K, b.gen, b.ende, b.items⟩) (hs'.set i ⟨K, xu, xn, xa, xl, xc⟩) :=
          S.store hn hx hpa 0 (by decide) (.int .i64 (K : Int)) ⟨K, xu, xn, xa, xl, xc⟩ rfl rfl ⟨K, b.gen, b.ende, b.items⟩ ⟨rfl, e2, e3⟩ rfl
        obtain ⟨c0, f0⟩ := S.cellAt hx hn 0 _ rfl
        simp only [Nat.add_zero] at c0 f0
        have HBS : Hid (w.heap.size ≤ wr.heap.size) := hb.size
        have b1 : Below B w (wr.setCell ⟨g, i * 4, none⟩ (.int .i64 (K : Int))) := hb.setCell (p := ⟨g, i * 4, none⟩) hg _
        have G1 : wr.grownBy (wr.setCell ⟨g, i * 4, none⟩ (.int .i64 (K : Int))) (some g) := grownBy_store _ _ _ _
        have HMX : Hid (∃ x0, hs[i]? = some x0 ∧ (⟨xv, xu, xn, xa, xl, xc⟩ : SgH).mv = x0.mv) := HMV.out i _ hx
        clear S hb
        obtain ⟨c1, f1⟩ := S1.cellAt (gx _) (hn1 _) 1 _ rfl
        have S2 := S1.store (hn1 _) (gx _) (gb _) 1 (by decide) (.int .i64 ((K : Int) + 1)) ⟨K, (K : Int) + 1, xn, xa, xl, xc⟩ rfl rfl ⟨K, (K : Int) + 1, b.ende, b.items⟩ ⟨rfl, rfl, e3⟩ rfl
        rw [List.set_set, List.set_set] at S2
        have b2 : Below B w ((wr.setCell ⟨g, i * 4, none⟩ (.int .i64 (K : Int))).setCell ⟨g, i * 4 + 1, none⟩ (.int .i64 ((K : Int) + 1))) := b1.setCell (p := ⟨g, i * 4 + 1, none⟩) hg _
        have G2 := G1.trans (grownBy_store _ g (i * 4 + 1) (.int .i64 ((K : Int) + 1)))
        obtain ⟨c2, f2⟩ := S2.cellAt (gx _) (hn1 _) 2 _ rfl
        have S3 := S2.store (hn1 _) (gx _) (gb _) 2 (by decide) (.int .i64 ((K : Int) + 1 + 1)) ⟨K, (K : Int) + 1, (K : Int) + 1 + 1, xa, xl, xc⟩ rfl rfl ⟨K, (K : Int) + 1, (K : Int) + 1 + 1, b.items⟩ ⟨rfl, rfl, rfl⟩ rfl
        rw [List.set_set, List.set_set] at S3
        have b3 : Below B w (((wr.setCell ⟨g, i * 4, none⟩ (.int .i64 (K : Int))).setCell ⟨g, i * 4 + 1, none⟩ (.int .i64 ((K : Int) + 1))).setCell ⟨g, i * 4 + 2, none⟩ (.int .i64 ((K : Int) + 1 + 1))) := b2.setCell (p := ⟨g, i * 4 + 2, none⟩) hg _
        have G3 := G2.trans (grownBy_store _ g (i * 4 + 2) (.int .i64 ((K : Int) + 1 + 1)))
        obtain ⟨c3, f3⟩ := S3.cellAt (gx _) (hn1 _) 3 _ rfl
        have HGX := Lib.hid gx
        have HGB := Lib.hid gb
        clear hn hpl hil hip hn1 gx gb S1 S2 b1 b2 G1 G2
        go_wp2_with fail
        clear c0 f0 c1 f1 c2 f2 c3 f3
        generalize ((wr.setCell ⟨g, i * 4, none⟩ (.int .i64 (K : Int))).setCell ⟨g, i * 4 + 1, none⟩ (.int .i64 ((K : Int) + 1))).setCell ⟨g, i * 4 + 2, none⟩ (.int .i64 ((K : Int) + 1 + 1)) = X4 at S3 b3 G3 ⊢
        have hK4 : (K : Int) + 1 + 1 + 1 = ((K + 3 : Nat) : Int) := by omega
        rw [hK4]
        have hmr4 := (S3.at' i _ _ (HGX.out _) (HGB.out _)).2
        refine (markItemS_put b.items _ (K + 3) B X4 X4 hmr4 (by omega) (by omega)).mono ?_
        rintro e w5 ⟨rfl, r5, g5⟩
        have S5 := S3.items (HGX.out _) (HGB.out _) _ r5.here g5
        rw [List.set_set] at S5
        have b5 : Below B w w5 := b3.grown g5 (Nat.le_trans hB b3.size) (fun q hq => (hmr4.own.lt q hq).1)
        have HKN : Hid (∀ q, q < w.heap.size → q ≠ g → (∀ (j : Nat) (x : SgH), hs[j]? = some x → x.mv.ownBlock ≠ some q) → w5.heap[q]? = w.heap[q]?) := fun q hq hqg hqm => by
          obtain ⟨x0, hx0, ex⟩ := HMX.out
          have hwr : q < wr.heap.size := Nat.lt_of_lt_of_le hq HBS.out
          have e1 := g5.block q (Nat.lt_of_lt_of_le hwr G3.size) (fun e => hqm i x0 hx0 (by rw [← ex]; exact e.symm))
          have e2 := G3.block q hwr (fun e => hqg (Option.some.inj e))
          exact (e1.trans e2).trans (HKP.out q hq hqg hqm)
        have HMN : Hid (∀ (j : Nat) (y : SgH), (hs'.set i ⟨K, (K : Int) + 1, (K : Int) + 1 + 1, xa, xl, xc⟩)[j]? = some y → ∃ x, hs[j]? = some x ∧ y.mv = x.mv) := fun j y hy => by
          rcases set_waysG hy with ⟨rfl, rfl⟩ | ⟨_, hy⟩
          · exact HMX.out
          · exact HMV.out j y hy
        have hmk : (⟨(K : Int), (K : Int) + 1, (K : Int) + 1 + 1, marksI (K + 3) b.items.length⟩ : Sg) = markG K b := by
          unfold markG
          rw [show (K : Int) + 1 + 1 = ((K + 2 : Nat) : Int) by omega, show (K : Int) + 1 = ((K + 1 : Nat) : Int) by omega]
        rw [hmk, HSET.out] at S5
        have HS5 := Lib.hid S5
        clear S5 S3 r5 g5 b3 hmr4 hmk G3
        go_wp2
        exact ⟨⟨i + 1, _, by omega, by simp, by rw [HK.out]; rfl, HS5.out, b5, HMN.out, HKN.out⟩, by first | omega | (simp [intOf]; omega)⟩
      · have hge : ¬ (i : Int) < (bs.length : Int) := by omega
        have hil : i = bs.length := by omega
        have HE : Hid (kF k bs = kF k (bs.take i) ∧ putG k bs i = marksG k bs) := ⟨by rw [hil, List.take_length], by rw [hil, putG_all]⟩
        rw [HE.out.2] at S
        have HS := Lib.hid S
        clear S
        go_wp2
        go_ret
        exact ⟨by rw [HE.out.1]; rfl, ⟨_, HS.out, HMV.out⟩, hb, fun q hq hqv hqm => HKP.out q hq (fun e => hqv (by rw [e]; rfl)) hqm⟩

set_option maxRecDepth 100000 in
set_option maxHeartbeats 4000000 in
theorem heldSegS_any (bs : List Sg) (v : Value) (k : Nat) (w : World) (h : GRd w v (marksG k bs)) (hk : 1 ≤ k) (hk2 : kF k bs ≤ 1099511627776) (hl : bs.length ≤ 1099511627776) :
    Calls Tryz.prog 33 #[v, .int .i64 (k : Int)] w fun e w' => e = .returned (.int .i64 (kF k bs : Int)) ∧ Below w.heap.size w w' := by
  obtain ⟨ad, cap, rfl, hrow⟩ := h.segs
  rw [marksG_length] at *
  have HR := Lib.hid hrow
  clear h hrow
  go_enter Tryz.func33, Tryz.ntmps33
  go_wp2
  go_loopw [1, 5] (fun kv iv wr => ∃ i : Nat, i ≤ bs.length ∧ iv = .int .i64 (i : Int) ∧ kv = .int .i64 ((kF k (bs.take i) : Nat) : Int) ∧ Below w.heap.size w wr) (fun _ iv _ => bs.length - (intOf iv).toNat)
  case atStart => exact ⟨0, by omega, rfl, rfl, Below.refl _ _⟩
  case round =>
    obtain ⟨i, hi, rfl, rfl, hb⟩ := hrel
    by_cases hlt : i < bs.length
    · have hgb : bs[i]? = some bs[i] := List.getElem?_eq_getElem hlt
      have hma := marksG_at k bs i _ hgb
      have hkt := kF_take k bs i _ hgb
      have hkl := kF_take_le k bs (i + 1)
      have hkg := kF_le k (bs.take i)
      generalize bs[i] = b at *
      obtain ⟨K, hK⟩ : ∃ K, kF k (bs.take i) = K := ⟨_, rfl⟩
      rw [hK] at hma hkt hkg ⊢
      have HK := Lib.hid hkt
      rw [hkt] at hkl
      unfold kG at hkl
      clear hkt hK hgb
      have hi0 : (0 : Int) ≤ (i : Int) := by omega
      have hi1 : (i : Int) < (bs.length : Int) := by omega
      obtain ⟨ga, oa, a1, n1, c1, rfl, p0r, p1r, p2r, p3, ra⟩ := HR.out _ hb i _ hma
      have p0 : wr.cell? ⟨ga, oa + i * 4, none⟩ = some (.int .i64 (K : Int)) := p0r
      have p1 : wr.cell? ⟨ga, oa + i * 4 + 1, none⟩ = some (.int .i64 ((K : Int) + 1)) := p1r
      have p2 : wr.cell? ⟨ga, oa + i * 4 + 2, none⟩ = some (.int .i64 ((K : Int) + 1 + 1)) := p2r
      have HRA : Hid (∀ X, Below w.heap.size w X → Rows' itE X (.slice a1 n1 c1) (marksI (K + 3) b.items.length)) := fun X hX => ra.later hX
      clear p0r p1r p2r ra hma
      go_wp2_with fail
      clear p0 p1 p2 p3
      have hK4 : (K : Int) + 1 + 1 + 1 = ((K + 3 : Nat) : Int) := by omega
      rw [hK4]
      refine (heldItemS_any b.items.length _ (K + 3) _ (HRA.out _ hb) (by omega) (by omega)).mono ?_
      rintro e w3 ⟨rfl, k3⟩
      have b3 := hb.trans (k3.mono hb.size)
      have hpos : ¬ (((K + 3 + 9 * b.items.length : Nat) : Int) < 0) := by omega
      obtain ⟨Q, hQ⟩ : ∃ Q : Nat, K + 3 + 9 * b.items.length = Q := ⟨_, rfl⟩
      rw [hQ] at hpos ⊢
      have HQ := Lib.hid hQ
      clear hQ k3
      go_wp2
      exact ⟨⟨i + 1, by omega, by simp, by rw [HK.out, ← HQ.out]; rfl, b3⟩, by first | omega | (simp [intOf]; omega)⟩
    · have hge : ¬ (i : Int) < (bs.length : Int) := by omega
      have hil : i = bs.length := by omega
      have HE : Hid (kF k bs = kF k (bs.take i)) := by rw [hil, List.take_length]; rfl
      go_wp2
      go_ret
      exact ⟨by rw [HE.out]; rfl, hb⟩

end Go.Proofs.YtgcnebepklelpaaGreatDoor

/- Segments that come in: how great they are. -/
namespace Go.Proofs.YtgcnebepklelpaaGreatDoor
open Go.RowKit



def sgLean (left : Int) (b : Sg) : Prop := ∀ x ∈ b.items, (x.2.user.size : Int) + x.2.name.size + x.2.text.size ≤ left
theorem sgLean.mono {a b : Int} {s : Sg} (h : sgLean a s) (hab : a ≤ b) : sgLean b s := fun x hx => Int.le_trans (h x hx) hab
def gIts : List Sg → Nat
  | [] => 0
  | b :: bs => b.items.length + gIts bs
end Go.Proofs.YtgcnebepklelpaaGreatDoor

/- Copies of segments that come in. -/
namespace Go.Proofs.YtgcnebepklelpaaGreatDoor
open Go.RowKit

def Sg.z : Sg := ⟨0, 0, 0, []⟩

theorem Box.four {w : World} {b : Nat} {u0 u1 u2 u3 : Value} {t : TypeId} (h : Box w b #[u0, u1, u2, u3] t) : w.cell? ⟨b, 0, none⟩ = some u0 ∧ w.cell? ⟨b, 1, none⟩ = some u1 ∧ w.cell? ⟨b, 2, none⟩ = some u2 ∧ w.cell? ⟨b, 3, none⟩ = some u3 ∧ w.frozen? ⟨b, 0, none⟩ = false ∧ w.frozen? ⟨b, 1, none⟩ = false ∧ w.frozen? ⟨b, 2, none⟩ = false ∧ w.frozen? ⟨b, 3, none⟩ = false :=
  ⟨h.cell 0 _ rfl, h.cell 1 _ rfl, h.cell 2 _ rfl, h.cell 3 _ rfl, h.loose 0, h.loose 1, h.loose 2, h.loose 3⟩
def put4 (w : World) (g i : Nat) (y : SgH) : World := (((w.setCell ⟨g, i * 4, none⟩ (.int .i64 y.no)).setCell ⟨g, i * 4 + 1, none⟩ (.int .i64 y.gen)).setCell ⟨g, i * 4 + 2, none⟩ (.int .i64 y.ende)).setCell ⟨g, i * 4 + 3, none⟩ (.slice y.a y.n y.c)
theorem put4_grown (w : World) (g i : Nat) (y : SgH) : w.grownBy (put4 w g i y) (some g) :=
  (((stored_grown w g (i * 4) _).trans (stored_grown _ g (i * 4 + 1) _)).trans (stored_grown _ g (i * 4 + 2) _)).trans (stored_grown _ g (i * 4 + 3) _)
theorem RBuf.put4 {B : Nat} {w0 w : World} {g cap : Nat} {l : List SgH} (h : RBuf sgE B w0 w (.slice (some ⟨g, 0, none⟩) l.length cap) l) (i : Nat) (x : SgH) (hi : l[i]? = some x) (y : SgH) :
    RBuf sgE B w0 (Go.Proofs.YtgcnebepklelpaaGreatDoor.put4 w g i y) (.slice (some ⟨g, 0, none⟩) l.length cap) (l.set i y) := by
  have hlt : i < l.length := (List.getElem?_eq_some_iff.1 hi).1
  have hl1 : ∀ z : SgH, (l.set i z).length = l.length := fun z => by simp
  have ha1 : ∀ z : SgH, (l.set i z)[i]? = some z := fun z => List.getElem?_set_self hlt
  have s0 : RBuf sgE B w0 (w.setCell ⟨g, i * 4, none⟩ (.int .i64 y.no)) (.slice (some ⟨g, 0, none⟩) l.length cap) (l.set i ⟨y.no, x.gen, x.ende, x.a, x.n, x.c⟩) := h.stored i _ ⟨y.no, x.gen, x.ende, x.a, x.n, x.c⟩ hi 0 (by decide) (.int .i64 y.no) rfl
  rw [← hl1 ⟨y.no, x.gen, x.ende, x.a, x.n, x.c⟩] at s0
  have s1 := s0.stored i _ ⟨y.no, y.gen, x.ende, x.a, x.n, x.c⟩ (ha1 _) 1 (by decide) (.int .i64 y.gen) rfl
  rw [List.set_set, hl1] at s1
  rw [← hl1 ⟨y.no, y.gen, x.ende, x.a, x.n, x.c⟩] at s1
  have s2 := s1.stored i _ ⟨y.no, y.gen, y.ende, x.a, x.n, x.c⟩ (ha1 _) 2 (by decide) (.int .i64 y.ende) rfl
  rw [List.set_set, hl1] at s2
  rw [← hl1 ⟨y.no, y.gen, y.ende, x.a, x.n, x.c⟩] at s2
  have s3 := s2.stored i _ ⟨y.no, y.gen, y.ende, y.a, y.n, y.c⟩ (ha1 _) 3 (by decide) (.slice y.a y.n y.c) rfl
  rw [List.set_set, hl1] at s3
  exact s3

theorem SgO.put {B : Nat} {w : World} {g cap n : Nat} {bs : List Sg} {hs : List SgH} (h : SgO B w (.slice (some ⟨g, 0, none⟩) n cap) bs hs) (hn : n = hs.length) {i : Nat} {x0 : SgH} (hi : hs[i]? = some x0) (x : SgH) (b : Sg)
    (hx : x.no = b.no ∧ x.gen = b.gen ∧ x.ende = b.ende) (hm : RBuf itE B w w x.mv b.items) (hf : ∀ k, x.mv.ownBlock = some k → k ≠ g)
    (ha : ∀ (j : Nat) (y : SgH), j ≠ i → hs[j]? = some y → ∀ k, x.mv.ownBlock = some k → y.mv.ownBlock ≠ some k) :
    SgO B (Go.Proofs.YtgcnebepklelpaaGreatDoor.put4 w g i x) (.slice (some ⟨g, 0, none⟩) n cap) (bs.set i b) (hs.set i x) := by
  subst hn
  have hg := put4_grown w g i x
  have kept : ∀ (m : Value) (l : List Itm), RBuf itE B w w m l → (∀ k, m.ownBlock = some k → k ≠ g) → RBuf itE B (Go.Proofs.YtgcnebepklelpaaGreatDoor.put4 w g i x) (Go.Proofs.YtgcnebepklelpaaGreatDoor.put4 w g i x) m l := fun m l hm hf => by
    refine hm.shift hg ?_
    cases hmb : m.ownBlock with
    | none => exact .inl rfl
    | some k => exact .inr (fun e => hf k hmb (Option.some.inj e))
  have far0 : ∀ {j : Nat} {y : SgH}, hs[j]? = some y → ∀ k, y.mv.ownBlock = some k → k ≠ g := fun {j y} hj k hk e => h.far j y hj k hk (by rw [e]; rfl)
  refine ⟨(h.row.put4 i x0 hi x).here, by simp [h.len], fun j y d h1 h2 => ?_, fun j y h1 k hk => ?_, fun j k y z h1 h2 hjk q hq => ?_⟩
  · rcases set_waysG h1 with ⟨rfl, rfl⟩ | ⟨hne, h1⟩
    · rcases set_waysG h2 with ⟨_, rfl⟩ | ⟨hne, _⟩
      · exact ⟨hx, kept _ _ hm hf⟩
      · exact absurd rfl hne
    · rcases set_waysG h2 with ⟨e, _⟩ | ⟨_, h2⟩
      · exact absurd e hne
      · exact ⟨(h.at' j y d h1 h2).1, kept _ _ (h.at' j y d h1 h2).2 (far0 h1)⟩
  · rcases set_waysG h1 with ⟨rfl, rfl⟩ | ⟨hne, h1⟩
    · intro e; exact hf k hk (Option.some.inj e).symm
    · exact h.far j y h1 k hk
  · rcases set_waysG h1 with ⟨ej, ey⟩ | ⟨nj, g1⟩
    · rcases set_waysG h2 with ⟨ek, _⟩ | ⟨nk, g2⟩
      · exact absurd (ej.trans ek.symm) hjk
      · rw [ey] at hq
        exact ha k z nk g2 q hq
    · rcases set_waysG h2 with ⟨_, ez⟩ | ⟨_, g2⟩
      · rw [ez]; intro e; exact ha j y nj g1 q e hq
      · exact h.apart j k y z g1 g2 hjk q hq



end Go.Proofs.YtgcnebepklelpaaGreatDoor

/- Logs in memory: a disk, and segments in use. -/
namespace Go.Proofs.YtgcnebepklelpaaGreatDoor
open Go.RowKit

structure Lg where
  d : Dk
  segs : Int
  used : List Sg
  ng : Int
  ns : Int
  st : Int
  nv : Int

theorem RBuf.stayG {α : Type} {E : Enc α} {B : Nat} {w w' : World} {v : Value} {l : List α} (h : RBuf E B w w v l) (hz : w.heap.size ≤ w'.heap.size) (hk : ∀ k, v.ownBlock = some k → w'.heap[k]? = w.heap[k]?) : RBuf E B w' w' v l := by
  refine ⟨⟨h.own.1, ?_⟩, Below.refl _ _, Nat.le_trans h.le hz⟩
  rcases h.own.2 with h1 | ⟨g, cap, cur, h1, h2, h3, h4⟩
  · exact .inl h1
  · exact .inr ⟨g, cap, cur, h1, h2, (hk g (by rw [h1]; rfl)).trans h3, h4⟩
theorem Box.keptG {b B T : Nat} {w w' : World} {cs : Array Value} {t : TypeId} (h : Box w b cs t) (hk : Kept B T w w') (hb : b < B ∨ T ≤ b) : Box w' b cs t := (hk.block b h.lt hb).trans h
theorem Box.eightL {w : World} {b : Nat} {u0 u1 u2 u3 u4 u5 u6 u7 : Value} {t : TypeId} (h : Box w b #[u0, u1, u2, u3, u4, u5, u6, u7] t) :
    w.cell? ⟨b, 0, none⟩ = some u0 ∧ w.cell? ⟨b, 1, none⟩ = some u1 ∧ w.cell? ⟨b, 2, none⟩ = some u2 ∧ w.cell? ⟨b, 3, none⟩ = some u3 ∧ w.cell? ⟨b, 4, none⟩ = some u4 ∧ w.cell? ⟨b, 5, none⟩ = some u5 ∧ w.cell? ⟨b, 6, none⟩ = some u6 ∧ w.cell? ⟨b, 7, none⟩ = some u7 ∧
    w.frozen? ⟨b, 0, none⟩ = false ∧ w.frozen? ⟨b, 1, none⟩ = false ∧ w.frozen? ⟨b, 2, none⟩ = false ∧ w.frozen? ⟨b, 3, none⟩ = false ∧ w.frozen? ⟨b, 4, none⟩ = false ∧ w.frozen? ⟨b, 5, none⟩ = false ∧ w.frozen? ⟨b, 6, none⟩ = false ∧ w.frozen? ⟨b, 7, none⟩ = false :=
  ⟨h.cell 0 _ rfl, h.cell 1 _ rfl, h.cell 2 _ rfl, h.cell 3 _ rfl, h.cell 4 _ rfl, h.cell 5 _ rfl, h.cell 6 _ rfl, h.cell 7 _ rfl, h.loose 0, h.loose 1, h.loose 2, h.loose 3, h.loose 4, h.loose 5, h.loose 6, h.loose 7⟩
def set8L (w : World) (b : Nat) (v0 v1 v2 v3 v4 v5 v6 v7 : Value) : World := (((((((w.setCell ⟨b, 0, none⟩ v0).setCell ⟨b, 1, none⟩ v1).setCell ⟨b, 2, none⟩ v2).setCell ⟨b, 3, none⟩ v3).setCell ⟨b, 4, none⟩ v4).setCell ⟨b, 5, none⟩ v5).setCell ⟨b, 6, none⟩ v6).setCell ⟨b, 7, none⟩ v7
theorem Box.set8L {w : World} {b : Nat} {u0 u1 u2 u3 u4 u5 u6 u7 : Value} {t : TypeId} (h : Box w b #[u0, u1, u2, u3, u4, u5, u6, u7] t) (v0 v1 v2 v3 v4 v5 v6 v7 : Value) : Box (Go.Proofs.YtgcnebepklelpaaGreatDoor.set8L w b v0 v1 v2 v3 v4 v5 v6 v7) b #[v0, v1, v2, v3, v4, v5, v6, v7] t :=
  have a0 : Box (w.setCell ⟨b, 0, none⟩ v0) b #[v0, u1, u2, u3, u4, u5, u6, u7] t := h.set 0 v0
  have a1 : Box ((w.setCell ⟨b, 0, none⟩ v0).setCell ⟨b, 1, none⟩ v1) b #[v0, v1, u2, u3, u4, u5, u6, u7] t := a0.set 1 v1
  have a2 : Box (((w.setCell ⟨b, 0, none⟩ v0).setCell ⟨b, 1, none⟩ v1).setCell ⟨b, 2, none⟩ v2) b #[v0, v1, v2, u3, u4, u5, u6, u7] t := a1.set 2 v2
  have a3 : Box ((((w.setCell ⟨b, 0, none⟩ v0).setCell ⟨b, 1, none⟩ v1).setCell ⟨b, 2, none⟩ v2).setCell ⟨b, 3, none⟩ v3) b #[v0, v1, v2, v3, u4, u5, u6, u7] t := a2.set 3 v3
  have a4 : Box (((((w.setCell ⟨b, 0, none⟩ v0).setCell ⟨b, 1, none⟩ v1).setCell ⟨b, 2, none⟩ v2).setCell ⟨b, 3, none⟩ v3).setCell ⟨b, 4, none⟩ v4) b #[v0, v1, v2, v3, v4, u5, u6, u7] t := a3.set 4 v4
  have a5 : Box ((((((w.setCell ⟨b, 0, none⟩ v0).setCell ⟨b, 1, none⟩ v1).setCell ⟨b, 2, none⟩ v2).setCell ⟨b, 3, none⟩ v3).setCell ⟨b, 4, none⟩ v4).setCell ⟨b, 5, none⟩ v5) b #[v0, v1, v2, v3, v4, v5, u6, u7] t := a4.set 5 v5
  have a6 : Box (((((((w.setCell ⟨b, 0, none⟩ v0).setCell ⟨b, 1, none⟩ v1).setCell ⟨b, 2, none⟩ v2).setCell ⟨b, 3, none⟩ v3).setCell ⟨b, 4, none⟩ v4).setCell ⟨b, 5, none⟩ v5).setCell ⟨b, 6, none⟩ v6) b #[v0, v1, v2, v3, v4, v5, v6, u7] t := a5.set 6 v6
  a6.set 7 v7
theorem below_set8L {B b : Nat} {w0 w : World} (h : Below B w0 w) (hb : B ≤ b) (v0 v1 v2 v3 v4 v5 v6 v7 : Value) : Below B w0 (set8L w b v0 v1 v2 v3 v4 v5 v6 v7) :=
  (((((((h.setCell (p := ⟨b, 0, none⟩) hb v0).setCell (p := ⟨b, 1, none⟩) hb v1).setCell (p := ⟨b, 2, none⟩) hb v2).setCell (p := ⟨b, 3, none⟩) hb v3).setCell (p := ⟨b, 4, none⟩) hb v4).setCell (p := ⟨b, 5, none⟩) hb v5).setCell (p := ⟨b, 6, none⟩) hb v6).setCell (p := ⟨b, 7, none⟩) hb v7
theorem grown_set8L (w : World) (b : Nat) (v0 v1 v2 v3 v4 v5 v6 v7 : Value) : w.grownBy (set8L w b v0 v1 v2 v3 v4 v5 v6 v7) (some b) :=
  (((((((stored_grown w b 0 v0).trans (stored_grown _ b 1 v1)).trans (stored_grown _ b 2 v2)).trans (stored_grown _ b 3 v3)).trans (stored_grown _ b 4 v4)).trans (stored_grown _ b 5 v5)).trans (stored_grown _ b 6 v6)).trans (stored_grown _ b 7 v7)

theorem SgO.stay {B : Nat} {w w' : World} {v : Value} {bs : List Sg} {hs : List SgH} (h : SgO B w v bs hs) (hz : w.heap.size ≤ w'.heap.size) (h1 : ∀ k, v.ownBlock = some k → w'.heap[k]? = w.heap[k]?) (h2 : ∀ (j : Nat) (x : SgH), hs[j]? = some x → ∀ k, x.mv.ownBlock = some k → w'.heap[k]? = w.heap[k]?) : SgO B w' v bs hs :=
  ⟨h.row.stayG hz h1, h.len, fun j x b e1 e2 => ⟨(h.at' j x b e1 e2).1, (h.at' j x b e1 e2).2.stayG hz (h2 j x e1)⟩, h.far, h.apart⟩

structure GOwn (B T : Nat) (w : World) (v : Value) (l : List Sg) (hs : List SgH) : Prop where
  own : SgO B w v l hs
  le : T ≤ w.heap.size
  row : ∀ k, v.ownBlock = some k → k < T
  its : ∀ (j : Nat) (x : SgH), hs[j]? = some x → ∀ k, x.mv.ownBlock = some k → k < T
theorem SgO.gown {B : Nat} {w : World} {v : Value} {l : List Sg} {hs : List SgH} (h : SgO B w v l hs) : GOwn B w.heap.size w v l hs :=
  ⟨h, Nat.le_refl _, fun k hk => (h.where'.1 k hk).2, fun j x hj k hk => (h.where'.2 j x hj k hk).2⟩
theorem GOwn.kept {B T B' T' : Nat} {w w' : World} {v : Value} {l : List Sg} {hs : List SgH} (h : GOwn B T w v l hs) (hk : Kept B' T' w w') (hd : T ≤ B' ∨ T' ≤ B) : GOwn B T w' v l hs :=
  ⟨h.own.stay hk.size (fun k e => hk.block k (h.own.where'.1 k e).2 (by have := h.row k e; have := (h.own.where'.1 k e).1; omega)) (fun j x hj k e => hk.block k (h.own.where'.2 j x hj k e).2 (by have := h.its j x hj k e; have := (h.own.where'.2 j x hj k e).1; omega)), Nat.le_trans h.le hk.size, h.row, h.its⟩
theorem GOwn.later {B T : Nat} {w w' : World} {v : Value} {l : List Sg} {hs : List SgH} (h : GOwn B T w v l hs) (hb : Below w.heap.size w w') : GOwn B T w' v l hs :=
  h.kept (Kept.of_below hb T T) (.inl (Nat.le_refl _))
theorem GOwn.widen {B T B' T' : Nat} {w : World} {v : Value} {l : List Sg} {hs : List SgH} (h : GOwn B T w v l hs) (hB : B' ≤ B) (hT : T ≤ T') (hs' : T' ≤ w.heap.size) : GOwn B' T' w v l hs :=
  ⟨h.own.lower hB, hs', fun k e => Nat.lt_of_lt_of_le (h.row k e) hT, fun j x hj k e => Nat.lt_of_lt_of_le (h.its j x hj k e) hT⟩

structure LgP (B T : Nat) (w : World) (va vb vu : Value) (L : Lg) (hs : List SgH) : Prop where
  sec : LOwn strE B T w va L.d.sec
  cac : LOwn wrE B T w vb L.d.cache
  two : va.ownBlock = none ∨ va.ownBlock ≠ vb.ownBlock
  use : GOwn B T w vu L.used hs
  far : ∀ k, va.ownBlock = some k ∨ vb.ownBlock = some k → vu.ownBlock ≠ some k ∧ ∀ (j : Nat) (x : SgH), hs[j]? = some x → x.mv.ownBlock ≠ some k
def LgO (B T : Nat) (w : World) (v : Value) (L : Lg) : Prop :=
  ∃ va vb vu hs, v = .agg #[va, vb, .int .i64 L.segs, vu, .int .i64 L.ng, .int .i64 L.ns, .int .i64 L.st, .int .i64 L.nv] ∧ LgP B T w va vb vu L hs
theorem LgP.kept {B T B' T' : Nat} {w w' : World} {va vb vu : Value} {L : Lg} {hs : List SgH} (h : LgP B T w va vb vu L hs) (hk : Kept B' T' w w') (hd : T ≤ B' ∨ T' ≤ B) : LgP B T w' va vb vu L hs :=
  ⟨h.sec.kept hk hd, h.cac.kept hk hd, h.two, h.use.kept hk hd, h.far⟩
theorem LgP.later {B T : Nat} {w w' : World} {va vb vu : Value} {L : Lg} {hs : List SgH} (h : LgP B T w va vb vu L hs) (hb : Below w.heap.size w w') : LgP B T w' va vb vu L hs :=
  h.kept (Kept.of_below hb T T) (.inl (Nat.le_refl _))
theorem LgO.kept {B T B' T' : Nat} {w w' : World} {v : Value} {L : Lg} (h : LgO B T w v L) (hk : Kept B' T' w w') (hd : T ≤ B' ∨ T' ≤ B) : LgO B T w' v L := by
  obtain ⟨va, vb, vu, hs, e, p⟩ := h
  exact ⟨va, vb, vu, hs, e, p.kept hk hd⟩
theorem LgO.later {B T : Nat} {w w' : World} {v : Value} {L : Lg} (h : LgO B T w v L) (hb : Below w.heap.size w w') : LgO B T w' v L :=
  h.kept (Kept.of_below hb T T) (.inl (Nat.le_refl _))
theorem LgP.stay {B T : Nat} {w w' : World} {va vb vu : Value} {L : Lg} {hs : List SgH} (h : LgP B T w va vb vu L hs) (hz : w.heap.size ≤ w'.heap.size) (hk : ∀ q, B ≤ q → q < T → w'.heap[q]? = w.heap[q]?) : LgP B T w' va vb vu L hs :=
  ⟨⟨h.sec.1.stayG hz (fun q e => hk q (h.sec.1.own.lt q e).1 (h.sec.2.2 q e)), Nat.le_trans h.sec.2.1 hz, h.sec.2.2⟩, ⟨h.cac.1.stayG hz (fun q e => hk q (h.cac.1.own.lt q e).1 (h.cac.2.2 q e)), Nat.le_trans h.cac.2.1 hz, h.cac.2.2⟩, h.two,
   ⟨h.use.own.stay hz (fun q e => hk q (h.use.own.where'.1 q e).1 (h.use.row q e)) (fun j x hj q e => hk q (h.use.own.where'.2 j x hj q e).1 (h.use.its j x hj q e)), Nat.le_trans h.use.le hz, h.use.row, h.use.its⟩, h.far⟩
theorem LgP.widen {B T B' T' : Nat} {w : World} {va vb vu : Value} {L : Lg} {hs : List SgH} (h : LgP B T w va vb vu L hs) (hB : B' ≤ B) (hT : T ≤ T') (hz : T' ≤ w.heap.size) : LgP B' T' w va vb vu L hs :=
  ⟨(h.sec.deeper hB).wider hT hz, (h.cac.deeper hB).wider hT hz, h.two, h.use.widen hB hT hz, h.far⟩
theorem LgP.mk2 {B1 T1 B2 T : Nat} {w : World} {va vb vu : Value} {L : Lg} {hs : List SgH} (hd : DOwn B1 T1 w (.agg #[va, vb]) L.d) (hg : GOwn B2 T w vu L.used hs) (h1 : T1 ≤ B2) (h2 : B1 ≤ B2) (h3 : T1 ≤ T) : LgP B1 T w va vb vu L hs := by
  obtain ⟨ua, ub, e, l1, l2, l3⟩ := hd
  simp only [Value.agg.injEq, Array.mk.injEq, List.cons.injEq, and_true] at e
  obtain ⟨rfl, rfl⟩ := e
  refine ⟨l1.wider h3 hg.le, l2.wider h3 hg.le, l3, hg.widen h2 (Nat.le_refl _) hg.le, fun k hk => ?_⟩
  have hlt : k < T1 := by rcases hk with e | e; exact l1.2.2 k e; exact l2.2.2 k e
  refine ⟨fun e => ?_, fun j x hj e => ?_⟩
  · have := (hg.own.where'.1 k e).1; omega
  · have := (hg.own.where'.2 j x hj k e).1; omega
theorem LgP.down {B T : Nat} {w : World} {va vb vu : Value} {L : Lg} {hs : List SgH} (h : LgP B T w va vb vu L hs) : DOwn B T w (.agg #[va, vb]) L.d := ⟨va, vb, rfl, h.sec, h.cac, h.two⟩
theorem LgP.form {B T : Nat} {w : World} {va vb vu : Value} {L : Lg} {hs : List SgH} (h : LgP B T w va vb vu L hs) : ∃ (a b u : Option Addr) (c e f : Nat), va = .slice a L.d.sec.length c ∧ vb = .slice b L.d.cache.length e ∧ vu = .slice u L.used.length f := by
  obtain ⟨a, c, rfl⟩ := h.sec.1.form
  obtain ⟨b, e, rfl⟩ := h.cac.1.form
  obtain ⟨u, f, rfl⟩ := h.use.own.row.form
  exact ⟨a, b, u, c, e, f, rfl, rfl, by rw [h.use.own.len]⟩
theorem LgO.form {B T : Nat} {w : World} {v : Value} {L : Lg} (h : LgO B T w v L) : ∃ (a b u : Option Addr) (c e f : Nat), v = .agg #[.slice a L.d.sec.length c, .slice b L.d.cache.length e, .int .i64 L.segs, .slice u L.used.length f, .int .i64 L.ng, .int .i64 L.ns, .int .i64 L.st, .int .i64 L.nv] := by
  obtain ⟨va, vb, vu, hs, rfl, p⟩ := h
  obtain ⟨a, b, u, c, e, f, rfl, rfl, rfl⟩ := p.form
  exact ⟨a, b, u, c, e, f, rfl⟩

def LRd (w : World) (v : Value) (L : Lg) : Prop :=
  ∃ va vb vu, v = .agg #[va, vb, .int .i64 L.segs, vu, .int .i64 L.ng, .int .i64 L.ns, .int .i64 L.st, .int .i64 L.nv] ∧ DRd w (.agg #[va, vb]) L.d ∧ GRd w vu L.used
theorem LgO.rd {B T : Nat} {w : World} {v : Value} {L : Lg} (h : LgO B T w v L) : LRd w v L := by
  obtain ⟨va, vb, vu, hs, rfl, p⟩ := h
  exact ⟨va, vb, vu, rfl, p.down.rd, p.use.own.rd⟩
theorem LRd.later {w w' : World} {v : Value} {L : Lg} (h : LRd w v L) (hb : Below w.heap.size w w') : LRd w' v L := by
  obtain ⟨va, vb, vu, e, h1, h2⟩ := h
  exact ⟨va, vb, vu, e, h1.later hb, h2.later hb⟩


theorem kF_gIts : ∀ (k : Nat) (bs : List Sg), kF k bs = k + 3 * bs.length + 9 * gIts bs
  | k, [] => by simp [kF, gIts]
  | k, b :: bs => by
    have h1 := kF_gIts (kG k b) bs
    unfold kF gIts
    rw [h1, List.length_cons]
    unfold kG
    omega
def marksLg (k : Nat) (L : Lg) : Lg := ⟨marksD k L.d, L.segs, marksG (k + L.d.count) L.used, L.ng, L.ns, L.st, L.nv⟩
def Lg.kL (k : Nat) (L : Lg) : Nat := kF (k + L.d.count) L.used
end Go.Proofs.YtgcnebepklelpaaGreatDoor

/- Lists that came in: a row read cell by cell is a list. -/
namespace Go.Proofs.YtgcnebepklelpaaGreatDoor
open Go.RowKit Go.ChangeShapes Go.WideShapes Go.ChangeAt Go.Deep Go.Joins

section
variable {W : World}

end

end Go.Proofs.YtgcnebepklelpaaGreatDoor

/- What a disk is that comes in as an argument: its rows can be read. -/
namespace Go.Proofs.YtgcnebepklelpaaGreatDoor
open Go.RowKit Go.ChangeShapes Go.WideShapes Go.ChangeAt Go.Deep Go.Joins

section
variable {H : Type} {enc : TypeId × Value → H} {W : World}

end

end Go.Proofs.YtgcnebepklelpaaGreatDoor

/- Lists of numbers in the exact laws: a copy, two alike, marks; and one that comes in. -/
namespace Go.Proofs.YtgcnebepklelpaaGreatDoor
open Go.RowKit Go.ChangeShapes Go.WideShapes Go.ChangeAt Go.Deep Go.Joins


set_option maxRecDepth 100000 in
set_option maxHeartbeats 1000000 in
theorem eqIntS_same (l : List Int) (va vb : Value) (w : World) (ha : Rows' intE w va l) (hb : Rows' intE w vb l) (hl : l.length ≤ 1099511627776) :
    Calls Tryz.prog 12 #[va, vb] w fun e w' => e = .returned (.bool true) ∧ Below w.heap.size w w' := by
  rcases ha.ways with ⟨rfl, a, c, rfl⟩ | ⟨hne, ga, oa, ca, rfl, hca, hga, hcla⟩
  · rcases hb.ways with ⟨_, b, d, rfl⟩ | ⟨hne, _⟩
    · clear ha hb
      go_enter Tryz.func12, Tryz.ntmps12
      go_wp2
      go_loop [5] (fun iv => iv = .int .i64 0) (fun _ => 0)
      case atStart => rfl
      case round =>
        obtain rfl := hrel
        go_wp2
        go_ret
        exact ⟨rfl, Below.refl _ _⟩
    · exact absurd rfl hne
  · rcases hb.ways with ⟨e, _⟩ | ⟨_, gb, ob, cb, rfl, hcb, hgb, hclb⟩
    · exact absurd e hne
    · clear ha hb
      have HA := Lib.hid hcla
      have HB := Lib.hid hclb
      clear hcla hclb
      go_enter Tryz.func12, Tryz.ntmps12
      go_wp2
      go_loopw [5] (fun iv wr => ∃ i : Nat, i ≤ l.length ∧ iv = .int .i64 (i : Int) ∧ Below w.heap.size w wr) (fun iv _ => l.length - (intOf iv).toNat)
      case atStart => exact ⟨0, by omega, rfl, Below.refl _ _⟩
      case round =>
        obtain ⟨i, hi, rfl, hbel⟩ := hrel
        by_cases hlt : i < l.length
        · have hg : l[i]? = some l[i] := List.getElem?_eq_getElem hlt
          have h1 := (hbel.cell (p := ⟨ga, oa + i * intE.sz + 0, none⟩) hga).trans (HA.out i _ hg 0 _ rfl)
          have h2 := (hbel.cell (p := ⟨gb, ob + i * intE.sz + 0, none⟩) hgb).trans (HB.out i _ hg 0 _ rfl)
          rw [show intE.sz = 1 from rfl, Nat.mul_one, Nat.add_zero] at h1 h2
          generalize l[i] = t at *
          have hi0 : (0 : Int) ≤ (i : Int) := by omega
          have hi1 : (i : Int) < (l.length : Int) := by omega
          clear hg
          go_wp2
          go_quiet (fail)
          go_wp2
          go_roundw
          case rel => exact ⟨i + 1, by omega, by go_num, below_drewN hbel _⟩
          case measure => simp [intOf]; omega
        · go_wp2
          go_ret
          exact ⟨rfl, hbel⟩

instance : Inhabited Int := ⟨0⟩

end Go.Proofs.YtgcnebepklelpaaGreatDoor

/- Lists of numbers: each is marked, and the marks are held. -/
namespace Go.Proofs.YtgcnebepklelpaaGreatDoor
open Go.RowKit

def markN (k : Nat) (j : Nat) : Int := ((k + j : Nat) : Int)
def marksN (k n : Nat) : List Int := (List.range n).map (markN k)
theorem marksN_length (k n : Nat) : (marksN k n).length = n := by simp [marksN]
theorem marksN_at {k n i : Nat} (h : i < n) : (marksN k n)[i]? = some (markN k i) := by simp [marksN, h]

set_option maxRecDepth 100000 in
set_option maxHeartbeats 1000000 in
theorem markIntS_put (l : List Int) (v : Value) (k B : Nat) (w0 w : World) (hb : RBuf intE B w0 w v l) (hk2 : k + l.length ≤ 1099511627776) :
    Calls Tryz.prog 14 #[v, .int .i64 (k : Int)] w fun e w' => e = .returned (.int .i64 ((k + l.length : Nat) : Int)) ∧ RBuf intE B w0 w' v (marksN k l.length) ∧ w.grownBy w' v.ownBlock := by
  rcases hb.own.2 with ⟨rfl, h0⟩ | ⟨g, cap, cur, rfl, hg, hh, hnc, hcp, hcs, htake⟩
  · obtain rfl := List.length_eq_zero_iff.1 h0
    go_enter Tryz.func14, Tryz.ntmps14
    go_wp2
    go_loop [1, 5] (fun kv iv => kv = .int .i64 (k : Int) ∧ iv = .int .i64 0) (fun _ _ => 0)
    case atStart => exact ⟨rfl, rfl⟩
    case round =>
      obtain ⟨rfl, rfl⟩ := hrel
      go_wp2
      go_ret
      exact ⟨rfl, hb, World.grownBy.refl _ _⟩
  · clear hh hcs htake hcp
    have hle : l.length ≤ 1099511627776 := by omega
    go_enter Tryz.func14, Tryz.ntmps14
    go_wp2
    go_loopw [1, 5] (fun kv iv wr => ∃ i : Nat, i ≤ l.length ∧ iv = .int .i64 (i : Int) ∧ kv = .int .i64 ((k + i : Nat) : Int) ∧ RBuf intE B w0 wr (.slice (some ⟨g, 0, none⟩) l.length cap) (putTo (markN k) l i) ∧ w.grownBy wr (some g)) (fun _ iv _ => l.length - (intOf iv).toNat)
    case atStart => exact ⟨0, by omega, rfl, rfl, by rw [putTo_zero]; exact hb, World.grownBy.refl _ _⟩
    case round =>
      obtain ⟨i, hi, rfl, rfl, hbr, hgr⟩ := hrel
      by_cases hlt : i < l.length
      · have hi0 : (0 : Int) ≤ (i : Int) := by omega
        have hi1 : (i : Int) < (l.length : Int) := by omega
        have hml := putTo_length (m := markN k) hi
        have hat := putTo_at (m := markN k) hlt
        have hms := putTo_set (m := markN k) hlt
        rw [← hml] at hbr
        obtain ⟨K, hK⟩ : ∃ K : Nat, K = k + i := ⟨_, rfl⟩
        have HK := Lib.hid hK
        have hmk : markN k i = (K : Int) := by rw [hK]; rfl
        rw [← hK]
        have hK1 : K + 1 ≤ 4611686018427387904 := by omega
        clear hK
        generalize l[i] = x at hat
        have cs : wr.cell? ⟨g, i, none⟩ = some (.int .i64 x) := by
          have := hbr.cell rfl i _ hat 0 _ rfl
          rw [show intE.sz = 1 from rfl, Nat.mul_one, Nat.add_zero] at this
          exact this
        have fs := hbr.loose i
        have hst := hbr.stored i _ (markN k i) hat 0 (by decide) (.int .i64 (markN k i)) rfl
        rw [show intE.sz = 1 from rfl, Nat.mul_one, Nat.add_zero, hml, hms] at hst
        have hg2 := hgr.trans (grownBy_store wr g i (.int .i64 (markN k i)))
        rw [hmk] at hst hg2
        have HST := Lib.hid (And.intro hst hg2)
        clear hbr hat hst hg2 hgr hmk hms hml
        go_wp2
        go_roundw
        case rel => exact ⟨i + 1, by omega, by go_num, by rw [HK.out]; go_num, HST.out.1, HST.out.2⟩
        case measure => simp [intOf]; omega
      · have hfin : Hid (i = l.length) := by show i = l.length; omega
        go_wp2
        go_ret
        refine ⟨?_, ?_, hgr⟩
        · rw [← hfin.out]; rfl
        · have := hbr
          rw [hfin.out, putTo_all] at this
          exact this

set_option maxRecDepth 100000 in
set_option maxHeartbeats 1000000 in
theorem heldIntS_any (n : Nat) (v : Value) (k : Nat) (w : World) (hb : Rows' intE w v (marksN k n)) (hk2 : k + n ≤ 1099511627776) :
    Calls Tryz.prog 16 #[v, .int .i64 (k : Int)] w fun e w' => e = .returned (.int .i64 ((k + n : Nat) : Int)) ∧ Below w.heap.size w w' := by
  have hmn := marksN_length k n
  rcases hb.ways with ⟨h0, a, c, rfl⟩ | ⟨hne, g, off, cap, rfl, hca, hg, hcl⟩
  · obtain rfl : n = 0 := by rw [h0] at hmn; simpa using hmn.symm
    clear hb h0 hmn
    go_enter Tryz.func16, Tryz.ntmps16
    go_wp2
    go_loop [1, 5] (fun kv iv => kv = .int .i64 (k : Int) ∧ iv = .int .i64 0) (fun _ _ => 0)
    case atStart => exact ⟨rfl, rfl⟩
    case round =>
      obtain ⟨rfl, rfl⟩ := hrel
      go_wp2
      go_ret
      exact ⟨rfl, Below.refl _ _⟩
  · rw [hmn] at *
    have HC := Lib.hid hcl
    clear hcl hb hne hmn
    go_enter Tryz.func16, Tryz.ntmps16
    go_wp2
    go_loopw [1, 5] (fun kv iv wr => ∃ i : Nat, i ≤ n ∧ iv = .int .i64 (i : Int) ∧ kv = .int .i64 ((k + i : Nat) : Int) ∧ Below w.heap.size w wr) (fun _ iv _ => n - (intOf iv).toNat)
    case atStart => exact ⟨0, by omega, rfl, rfl, Below.refl _ _⟩
    case round =>
      obtain ⟨i, hi, rfl, rfl, hbel⟩ := hrel
      by_cases hlt : i < n
      · have hi0 : (0 : Int) ≤ (i : Int) := by omega
        have hi1 : (i : Int) < (n : Int) := by omega
        have h1 := (hbel.cell (p := ⟨g, off + i * intE.sz + 0, none⟩) hg).trans (HC.out i _ (marksN_at hlt) 0 _ rfl)
        rw [show intE.sz = 1 from rfl, Nat.mul_one, Nat.add_zero] at h1
        obtain ⟨K, hK⟩ : ∃ K : Nat, K = k + i := ⟨_, rfl⟩
        have HK := Lib.hid hK
        have hmk : markN k i = (K : Int) := by rw [hK]; rfl
        rw [hmk] at h1
        rw [← hK]
        have hK1 : K + 1 ≤ 4611686018427387904 := by omega
        clear hK hmk
        go_wp2
        go_roundw
        case rel => exact ⟨i + 1, by omega, by go_num, by rw [HK.out]; go_num, hbel⟩
        case measure => simp [intOf]; omega
      · have hfin : Hid (i = n) := by show i = n; omega
        go_wp2
        go_ret
        exact ⟨by rw [← hfin.out]; rfl, hbel⟩

end Go.Proofs.YtgcnebepklelpaaGreatDoor
