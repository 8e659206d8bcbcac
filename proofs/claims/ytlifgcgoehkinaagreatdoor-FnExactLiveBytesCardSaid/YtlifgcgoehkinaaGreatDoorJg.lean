/- Texts of our own, joined. -/
import Derived.Test.YtlifgcgoehkinaaGreatDoorJf
import Derived.Test.YtlifgcgoehkinaaGreatDoorJa
import Derived.Test.YtlifgcgoehkinaaGreatDoorJb
import Derived.Deep.Slices
import Derived.Lib.SmallJoins
import Derived.ProofKit
import Derived.Deep.SlicePairs
import Derived.Deep.QuietTactic
import Derived.BigQuiet
import Derived.OpenShut
import Derived.Lib.Hide
import Derived.WalkSmall
import Derived.Test.YtlifgcgoehkinaaGreatDoorJe
/- Copies of segments that come in. -/
namespace Go.Proofs.YtlifgcgoehkinaaGreatDoor
open Go.RowKit

def Sg.z : Sg := ⟨0, 0, 0, []⟩

theorem Box.four {w : World} {b : Nat} {u0 u1 u2 u3 : Value} {t : TypeId} (h : Box w b #[u0, u1, u2, u3] t) : w.cell? ⟨b, 0, none⟩ = some u0 ∧ w.cell? ⟨b, 1, none⟩ = some u1 ∧ w.cell? ⟨b, 2, none⟩ = some u2 ∧ w.cell? ⟨b, 3, none⟩ = some u3 ∧ w.frozen? ⟨b, 0, none⟩ = false ∧ w.frozen? ⟨b, 1, none⟩ = false ∧ w.frozen? ⟨b, 2, none⟩ = false ∧ w.frozen? ⟨b, 3, none⟩ = false :=
  ⟨h.cell 0 _ rfl, h.cell 1 _ rfl, h.cell 2 _ rfl, h.cell 3 _ rfl, h.loose 0, h.loose 1, h.loose 2, h.loose 3⟩
def set4 (w : World) (b : Nat) (v0 v1 v2 v3 : Value) : World := (((w.setCell ⟨b, 0, none⟩ v0).setCell ⟨b, 1, none⟩ v1).setCell ⟨b, 2, none⟩ v2).setCell ⟨b, 3, none⟩ v3
theorem Box.set4 {w : World} {b : Nat} {u0 u1 u2 u3 : Value} {t : TypeId} (h : Box w b #[u0, u1, u2, u3] t) (v0 v1 v2 v3 : Value) : Box (Go.Proofs.YtlifgcgoehkinaaGreatDoor.set4 w b v0 v1 v2 v3) b #[v0, v1, v2, v3] t := (((h.set 0 v0).set 1 v1).set 2 v2).set 3 v3
theorem RBuf.asideG {α : Type} {E : Enc α} {B : Nat} {w : World} {v : Value} {l : List α} (h : RBuf E B w w v l) (g i : Nat) (u : Value) (hg : g < B) : RBuf E B (w.setCell ⟨g, i, none⟩ u) (w.setCell ⟨g, i, none⟩ u) v l := by
  refine h.shift (stored_grown w g i u) ?_
  cases hv : v.ownBlock with
  | none => exact .inl rfl
  | some k => exact .inr (fun e => by have := (h.own.lt k hv).1; have := Option.some.inj e; omega)

def put4 (w : World) (g i : Nat) (y : SgH) : World := (((w.setCell ⟨g, i * 4, none⟩ (.int .i64 y.no)).setCell ⟨g, i * 4 + 1, none⟩ (.int .i64 y.gen)).setCell ⟨g, i * 4 + 2, none⟩ (.int .i64 y.ende)).setCell ⟨g, i * 4 + 3, none⟩ (.slice y.a y.n y.c)
theorem put4_grown (w : World) (g i : Nat) (y : SgH) : w.grownBy (put4 w g i y) (some g) :=
  (((stored_grown w g (i * 4) _).trans (stored_grown _ g (i * 4 + 1) _)).trans (stored_grown _ g (i * 4 + 2) _)).trans (stored_grown _ g (i * 4 + 3) _)
theorem RBuf.put4 {B : Nat} {w0 w : World} {g cap : Nat} {l : List SgH} (h : RBuf sgE B w0 w (.slice (some ⟨g, 0, none⟩) l.length cap) l) (i : Nat) (x : SgH) (hi : l[i]? = some x) (y : SgH) :
    RBuf sgE B w0 (Go.Proofs.YtlifgcgoehkinaaGreatDoor.put4 w g i y) (.slice (some ⟨g, 0, none⟩) l.length cap) (l.set i y) := by
  have hlt : i < l.length := (List.getElem?_eq_some_iff.1 hi).1
  have hl1 : ∀ z : SgH, (l.set i z).length = l.length := fun z => by simp
  have ha1 : ∀ z : SgH, (l.set i z)[i]? = some z := fun z => List.getElem?_set_self hlt
  have s0 : RBuf sgE B w0 (w.setCell ⟨g, i * 4, none⟩ (.int .i64 y.no)) (.slice (some ⟨g, 0, none⟩) l.length cap) (l.set i ⟨y.no, x.gen, x.ende, x.a, x.n, x.c⟩) := h.stored i _ ⟨y.no, x.gen, x.ende, x.a, x.n, x.c⟩ hi 0 (by decide) (.int .i64 y.no) rfl
  rw [← hl1 ⟨y.no, x.gen, x.ende, x.a, x.n, x.c⟩] at s0
  have s1 := s0.stored i _ ⟨y.no, y.gen, x.ende, x.a, x.n, x.c⟩ (ha1 _) 1 (by decide) (.int .i64 y.gen) rfl
  rw [List.set_set, hl1] at s1
  rw [← hl1 ⟨y.no, y.gen, x.ende, x.a, x.n, x.c⟩] at s1
  have s2 := s1.stored i _ ⟨y.no, y.gen, y.ende, x.a, x.n, x.c⟩ (ha1 _) 2 (by decide) (.int .i64 y.ende) rfl
  rw [List.set_set, hl1] at s2
  rw [← hl1 ⟨y.no, y.gen, y.ende, x.a, x.n, x.c⟩] at s2
  have s3 := s2.stored i _ ⟨y.no, y.gen, y.ende, y.a, y.n, y.c⟩ (ha1 _) 3 (by decide) (.slice y.a y.n y.c) rfl
  rw [List.set_set, hl1] at s3
  exact s3

theorem SgO.put {B : Nat} {w : World} {g cap n : Nat} {bs : List Sg} {hs : List SgH} (h : SgO B w (.slice (some ⟨g, 0, none⟩) n cap) bs hs) (hn : n = hs.length) {i : Nat} {x0 : SgH} (hi : hs[i]? = some x0) (x : SgH) (b : Sg)
    (hx : x.no = b.no ∧ x.gen = b.gen ∧ x.ende = b.ende) (hm : RBuf itE B w w x.mv b.items) (hf : ∀ k, x.mv.ownBlock = some k → k ≠ g)
    (ha : ∀ (j : Nat) (y : SgH), j ≠ i → hs[j]? = some y → ∀ k, x.mv.ownBlock = some k → y.mv.ownBlock ≠ some k) :
    SgO B (Go.Proofs.YtlifgcgoehkinaaGreatDoor.put4 w g i x) (.slice (some ⟨g, 0, none⟩) n cap) (bs.set i b) (hs.set i x) := by
  subst hn
  have hg := put4_grown w g i x
  have kept : ∀ (m : Value) (l : List Itm), RBuf itE B w w m l → (∀ k, m.ownBlock = some k → k ≠ g) → RBuf itE B (Go.Proofs.YtlifgcgoehkinaaGreatDoor.put4 w g i x) (Go.Proofs.YtlifgcgoehkinaaGreatDoor.put4 w g i x) m l := fun m l hm hf => by
    refine hm.shift hg ?_
    cases hmb : m.ownBlock with
    | none => exact .inl rfl
    | some k => exact .inr (fun e => hf k hmb (Option.some.inj e))
  have far0 : ∀ {j : Nat} {y : SgH}, hs[j]? = some y → ∀ k, y.mv.ownBlock = some k → k ≠ g := fun {j y} hj k hk e => h.far j y hj k hk (by rw [e]; rfl)
  refine ⟨(h.row.put4 i x0 hi x).here, by simp [h.len], fun j y d h1 h2 => ?_, fun j y h1 k hk => ?_, fun j k y z h1 h2 hjk q hq => ?_⟩
  · rcases set_waysG h1 with ⟨rfl, rfl⟩ | ⟨hne, h1⟩
    · rcases set_waysG h2 with ⟨_, rfl⟩ | ⟨hne, _⟩
      · exact ⟨hx, kept _ _ hm hf⟩
      · exact absurd rfl hne
    · rcases set_waysG h2 with ⟨e, _⟩ | ⟨_, h2⟩
      · exact absurd e hne
      · exact ⟨(h.at' j y d h1 h2).1, kept _ _ (h.at' j y d h1 h2).2 (far0 h1)⟩
  · rcases set_waysG h1 with ⟨rfl, rfl⟩ | ⟨hne, h1⟩
    · intro e; exact hf k hk (Option.some.inj e).symm
    · exact h.far j y h1 k hk
  · rcases set_waysG h1 with ⟨ej, ey⟩ | ⟨nj, g1⟩
    · rcases set_waysG h2 with ⟨ek, _⟩ | ⟨nk, g2⟩
      · exact absurd (ej.trans ek.symm) hjk
      · rw [ey] at hq
        exact ha k z nk g2 q hq
    · rcases set_waysG h2 with ⟨_, ez⟩ | ⟨_, g2⟩
      · rw [ez]; intro e; exact ha j y nj g1 q e hq
      · exact h.apart j k y z g1 g2 hjk q hq

set_option maxRecDepth 100000 in
set_option maxHeartbeats 2000000 in
theorem toSeg_any (b : Sg) (a : Option Addr) (n c : Nat) (w : World) (h : Rows' litE w (.slice a n c) b.items) (hl : b.items.length ≤ 1048576) :
    Calls Tryz.prog 41 #[.agg #[.int .i64 b.no, .int .i64 b.gen, .int .i64 b.ende, .slice a n c]] w fun e w' => ∃ (p : Option Addr) (k q : Nat), e = .returned (.agg #[.int .i64 b.no, .int .i64 b.gen, .int .i64 b.ende, .slice p k q]) ∧ RBuf itE w.heap.size w' w' (.slice p k q) b.items ∧ Below w.heap.size w w' := by
  have bA := belNew w (.cells #[.int .i64 b.no, .int .i64 b.gen, .int .i64 b.ende, .slice a n c] 81)
  obtain ⟨wA, hwA⟩ : ∃ wA, wA = w.alloc (.cells #[.int .i64 b.no, .int .i64 b.gen, .int .i64 b.ende, .slice a n c] 81) := ⟨_, rfl⟩
  have eA : wA.heap.size = w.heap.size + 1 := by rw [hwA]; simp
  rw [← hwA] at bA
  have hB := Box.new wA #[.int .i64 0, .int .i64 0, .int .i64 0, .slice none 0 0] 60
  have bB := bA.trans ((belNew wA (.cells #[.int .i64 0, .int .i64 0, .int .i64 0, .slice none 0 0] 60)).mono bA.size)
  obtain ⟨wB, hwB⟩ : ∃ wB, wB = wA.alloc (.cells #[.int .i64 0, .int .i64 0, .int .i64 0, .slice none 0 0] 60) := ⟨_, rfl⟩
  have eB : wB.heap.size = w.heap.size + 1 + 1 := by rw [hwB]; simp; omega
  rw [← hwB] at hB bB
  rw [eA] at hB
  have hC := Box.new wB #[.int .i64 b.no, .int .i64 b.gen, .int .i64 b.ende, .slice none 0 0] 60
  have kC := belNew wB (.cells #[.int .i64 b.no, .int .i64 b.gen, .int .i64 b.ende, .slice none 0 0] 60)
  have bC := bB.trans (kC.mono bB.size)
  obtain ⟨wC, hwC⟩ : ∃ wC, wC = wB.alloc (.cells #[.int .i64 b.no, .int .i64 b.gen, .int .i64 b.ende, .slice none 0 0] 60) := ⟨_, rfl⟩
  have eC : wC.heap.size = w.heap.size + 1 + 1 + 1 := by rw [hwC]; simp; omega
  rw [← hwC] at hC kC bC
  rw [eB] at hC
  have hB' := hB.later kC
  have HT := Lib.hid (toItemS_any b.items _ wC (h.later bC) hl)
  have HEC := Lib.hid eC
  have HWC : Hid (wC = ((w.alloc (.cells #[.int .i64 b.no, .int .i64 b.gen, .int .i64 b.ende, .slice a n c] 81)).alloc (.cells #[.int .i64 0, .int .i64 0, .int .i64 0, .slice none 0 0] 60)).alloc (.cells #[.int .i64 b.no, .int .i64 b.gen, .int .i64 b.ende, .slice none 0 0] 60)) := by rw [← hwA, ← hwB, ← hwC]; exact rfl
  clear h hB bB bA kC eA eB eC hwA hwB hwC
  go_enter Tryz.func41, Tryz.ntmps41
  go_wp2_with fail
  rw [← HWC.out]
  refine HT.out.mono ?_
  rintro e w1 ⟨v1, rfl, R1⟩
  obtain ⟨p, q, rfl⟩ := R1.form
  have B1 := hB'.later R1.bel
  have C1 := hC.later R1.bel
  have b1 := bC.trans (R1.bel.mono bC.size)
  obtain ⟨u0, u1, u2, u3, f0, f1, f2, f3⟩ := B1.four
  obtain ⟨x0, x1, x2, x3, y0, y1, y2, y3⟩ := C1.four
  have C2 : Box (w1.setCell ⟨w.heap.size + 1 + 1, 3, none⟩ (.slice p b.items.length q)) (w.heap.size + 1 + 1) #[.int .i64 b.no, .int .i64 b.gen, .int .i64 b.ende, .slice p b.items.length q] 60 := C1.set 3 _
  have B2 : Box (w1.setCell ⟨w.heap.size + 1 + 1, 3, none⟩ (.slice p b.items.length q)) (w.heap.size + 1) #[.int .i64 0, .int .i64 0, .int .i64 0, .slice none 0 0] 60 := B1.other (by omega) 3 _
  have hg1 : w.heap.size + 1 + 1 < wC.heap.size := by have := HEC.out; omega
  have R2 := Lib.hid (R1.here.asideG (w.heap.size + 1 + 1) 3 (.slice p b.items.length q) hg1)
  have b2 := Lib.hid (b1.setCell (p := ⟨w.heap.size + 1 + 1, 3, none⟩) (show w.heap.size ≤ w.heap.size + 1 + 1 by omega) (.slice p b.items.length q))
  have HG := Lib.hid hg1
  clear hB' hC bC HT HWC HEC B1 C1 b1 R1 hg1
  go_upto_region 6 with fail
  generalize w1.setCell ⟨w.heap.size + 1 + 1, 3, none⟩ (.slice p b.items.length q) = w2 at C2 B2 R2 b2 ⊢
  clear u0 u1 u2 u3 x0 x1 x2 x3 f0 f1 f2 f3 y0 y1 y2 y3
  obtain ⟨u0, u1, u2, u3, f0, f1, f2, f3⟩ := B2.four
  obtain ⟨x0, x1, x2, x3, y0, y1, y2, y3⟩ := C2.four
  have L5 := B2.set4 (.int .i64 b.no) (.int .i64 b.gen) (.int .i64 b.ende) (.slice p b.items.length q)
  unfold set4 at L5
  obtain ⟨z0, z1, z2, z3, _⟩ := L5.four
  clear L5 B2 C2
  go_wp2
  refine bodyPost_ret (v := .agg #[.int .i64 b.no, .int .i64 b.gen, .int .i64 b.ende, .slice p b.items.length q]) (by simp [results, Tryz.results41, go_sem, z0, z1, z2, z3]) rfl ⟨_, _, _, rfl, ?_, ?_⟩
  · have hl : w.heap.size + 1 < wC.heap.size := by have := HG.out; omega
    exact ((((R2.out.asideG _ 0 _ hl).asideG _ 1 _ hl).asideG _ 2 _ hl).asideG _ 3 _ hl).lower (by omega)
  · exact (((b2.out.setCell (p := ⟨w.heap.size + 1, 0, none⟩) (by simp) _).setCell (p := ⟨w.heap.size + 1, 1, none⟩) (by simp) _).setCell (p := ⟨w.heap.size + 1, 2, none⟩) (by simp) _).setCell (p := ⟨w.heap.size + 1, 3, none⟩) (by simp) _

set_option maxRecDepth 100000 in
set_option maxHeartbeats 4000000 in
theorem toSegS_any (l : List Sg) (v : Value) (w : World) (h : LGRd w v l) (hl : l.length ≤ 1048576) (hm : ∀ b ∈ l, b.items.length ≤ 1048576) :
    Calls Tryz.prog 25 #[v] w fun e w' => ∃ v' hs, e = .returned v' ∧ SgO w.heap.size w' v' l hs ∧ Below w.heap.size w w' := by
  obtain ⟨a, cap, rfl, hrow⟩ := h.segs
  have HR := Lib.hid hrow
  have HM := Lib.hid hm
  clear h hrow hm
  go_enter Tryz.func25, Tryz.ntmps25
  go_wp2_with (at_make; refine wpList_make_rows rfl _ _ sgE rfl .i64 .i64 _ _ l.length rfl rfl rfl rfl (by show 49 * l.length ≤ _; omega) ?_; intro w1 hr1 hs1)
  have S0 : SgO w.heap.size w1 (.slice (some ⟨w.heap.size, 0, none⟩) l.length l.length) (copyTo Sg.z l 0) (List.replicate l.length sgE.z0) := by
    rw [copyTo_zero]
    refine ⟨hr1.here, by simp, fun j x b h1 h2 => ?_, fun j x h1 k hk => ?_, fun i j x y h1 h2 _ k hk => ?_⟩
    · rw [List.getElem?_replicate] at h1 h2
      split at h1
      · rename_i c
        rw [if_pos c] at h2
        cases h1
        cases h2
        exact ⟨⟨rfl, rfl, rfl⟩, ⟨World.ownsRow_nil _ _ _ _, Below.refl _ _, hr1.le⟩⟩
      · cases h1
    · rw [List.getElem?_replicate] at h1
      split at h1
      · cases h1; cases hk
      · cases h1
    · rw [List.getElem?_replicate] at h1
      split at h1
      · cases h1; cases hk
      · cases h1
  have B0 : Below w.heap.size w w1 := hr1.bel
  go_loopw [4] (fun iv wr => ∃ (i : Nat) (hs : List SgH), i ≤ l.length ∧ iv = .int .i64 (i : Int) ∧ SgO w.heap.size wr (.slice (some ⟨w.heap.size, 0, none⟩) l.length l.length) (copyTo Sg.z l i) hs ∧ Below w.heap.size w wr) (fun iv _ => l.length - (intOf iv).toNat)
  case atStart => exact ⟨0, _, by omega, rfl, S0, B0⟩
  case round =>
    clear S0 B0 hr1 hs1
    obtain ⟨i, hs, hi, rfl, S, hb⟩ := hrel
    by_cases hlt : i < l.length
    · have hgx : l[i]? = some l[i] := List.getElem?_eq_getElem hlt
      obtain ⟨ga, oa, am, nm, cm, rfl, a0, a1, a2, a3, rm⟩ := HR.out _ hb i _ hgx
      have hi0 : (0 : Int) ≤ (i : Int) := by omega
      have hi1 : (i : Int) < (l.length : Int) := by omega
      have hml := copyTo_length (z := Sg.z) hi
      have hms := copyTo_set (z := Sg.z) hlt
      have hat := copyTo_at (z := Sg.z) hlt
      have hhl : l.length = hs.length := by rw [S.len, hml]
      obtain ⟨x0, hx0⟩ : ∃ x0, hs[i]? = some x0 := ⟨_, List.getElem?_eq_getElem (by omega)⟩
      have HF : Hid (∀ w1, Below wr.heap.size wr w1 → ∃ (v0 v1 v2 : Int) (pa : Option Addr) (pn pc : Nat), w1.cell? ⟨w.heap.size, i * 4, none⟩ = some (.int .i64 v0) ∧ w1.frozen? ⟨w.heap.size, i * 4, none⟩ = false ∧ w1.cell? ⟨w.heap.size, i * 4 + 1, none⟩ = some (.int .i64 v1) ∧ w1.frozen? ⟨w.heap.size, i * 4 + 1, none⟩ = false ∧ w1.cell? ⟨w.heap.size, i * 4 + 2, none⟩ = some (.int .i64 v2) ∧ w1.frozen? ⟨w.heap.size, i * 4 + 2, none⟩ = false ∧ w1.cell? ⟨w.heap.size, i * 4 + 3, none⟩ = some (.slice pa pn pc) ∧ w1.frozen? ⟨w.heap.size, i * 4 + 3, none⟩ = false) := by
        intro w1 hb1
        have h1 := S.later hb1
        have c0 := h1.cellAt hx0 hhl 0 _ rfl
        have c1 := h1.cellAt hx0 hhl 1 _ rfl
        have c2 := h1.cellAt hx0 hhl 2 _ rfl
        have c3 := h1.cellAt hx0 hhl 3 _ rfl
        exact ⟨_, _, _, _, _, _, c0.1, c0.2, c1.1, c1.2, c2.1, c2.2, c3.1, c3.2⟩
      have hmx := HM.out l[i] (List.getElem_mem hlt)
      generalize hx : l[i] = x at *
      have HT := Lib.hid (toSeg_any x am nm cm wr (rm.later hb) hmx)
      have HX0 := Lib.hid hx0
      have HHL := Lib.hid hhl
      clear hgx rm hx0 hhl hx hmx
      go_wp2_with (go_at_call 41; refine HT.out.mono ?_; rintro e w1 ⟨pp, pk, pq, rfl, RM, hb1⟩; obtain ⟨v0, v1, v2, pa, pn, pc, d0, f0, d1, f1, d2, f2, d3, f3⟩ := HF.out w1 hb1)
      have hp := (S.later hb1).put HHL.out HX0.out ⟨x.no, x.gen, x.ende, pp, pk, pq⟩ x ⟨rfl, rfl, rfl⟩ (RM.lower hb.size) (fun k hk e => by
        have h1 := (RM.own.lt k hk).1
        have h2 := (S.where'.1 w.heap.size rfl).2
        omega) (fun j y _ hj k hk e => by
        have h1 := (RM.own.lt k hk).1
        have h2 := (S.where'.2 j y hj k e).2
        omega)
      rw [hms] at hp
      have hbz : Below w.heap.size w (put4 w1 w.heap.size i ⟨x.no, x.gen, x.ende, pp, pk, pq⟩) := (hb.trans (hb1.mono hb.size)).grown (put4_grown _ _ _ _) (Nat.le_trans hb.size hb1.size) (fun k hk => by have := Option.some.inj hk; omega)
      unfold put4 at hp hbz
      go_roundw
      case rel => exact ⟨i + 1, _, by omega, by go_num, hp, hbz⟩
      case measure => simp [intOf]; omega
    · go_wp2
      go_ret
      rw [copyTo_all (by omega)] at S
      exact ⟨_, _, rfl, S, hb⟩

end Go.Proofs.YtlifgcgoehkinaaGreatDoor

/- Logs in memory: a disk, and segments in use. -/
namespace Go.Proofs.YtlifgcgoehkinaaGreatDoor
open Go.RowKit

structure Lg where
  d : Dk
  segs : Int
  used : List Sg
  ng : Int
  ns : Int
  st : Int
  nv : Int

theorem RBuf.stayG {α : Type} {E : Enc α} {B : Nat} {w w' : World} {v : Value} {l : List α} (h : RBuf E B w w v l) (hz : w.heap.size ≤ w'.heap.size) (hk : ∀ k, v.ownBlock = some k → w'.heap[k]? = w.heap[k]?) : RBuf E B w' w' v l := by
  refine ⟨⟨h.own.1, ?_⟩, Below.refl _ _, Nat.le_trans h.le hz⟩
  rcases h.own.2 with h1 | ⟨g, cap, cur, h1, h2, h3, h4⟩
  · exact .inl h1
  · exact .inr ⟨g, cap, cur, h1, h2, (hk g (by rw [h1]; rfl)).trans h3, h4⟩
theorem Box.eightL {w : World} {b : Nat} {u0 u1 u2 u3 u4 u5 u6 u7 : Value} {t : TypeId} (h : Box w b #[u0, u1, u2, u3, u4, u5, u6, u7] t) :
    w.cell? ⟨b, 0, none⟩ = some u0 ∧ w.cell? ⟨b, 1, none⟩ = some u1 ∧ w.cell? ⟨b, 2, none⟩ = some u2 ∧ w.cell? ⟨b, 3, none⟩ = some u3 ∧ w.cell? ⟨b, 4, none⟩ = some u4 ∧ w.cell? ⟨b, 5, none⟩ = some u5 ∧ w.cell? ⟨b, 6, none⟩ = some u6 ∧ w.cell? ⟨b, 7, none⟩ = some u7 ∧
    w.frozen? ⟨b, 0, none⟩ = false ∧ w.frozen? ⟨b, 1, none⟩ = false ∧ w.frozen? ⟨b, 2, none⟩ = false ∧ w.frozen? ⟨b, 3, none⟩ = false ∧ w.frozen? ⟨b, 4, none⟩ = false ∧ w.frozen? ⟨b, 5, none⟩ = false ∧ w.frozen? ⟨b, 6, none⟩ = false ∧ w.frozen? ⟨b, 7, none⟩ = false :=
  ⟨h.cell 0 _ rfl, h.cell 1 _ rfl, h.cell 2 _ rfl, h.cell 3 _ rfl, h.cell 4 _ rfl, h.cell 5 _ rfl, h.cell 6 _ rfl, h.cell 7 _ rfl, h.loose 0, h.loose 1, h.loose 2, h.loose 3, h.loose 4, h.loose 5, h.loose 6, h.loose 7⟩
def set8L (w : World) (b : Nat) (v0 v1 v2 v3 v4 v5 v6 v7 : Value) : World := (((((((w.setCell ⟨b, 0, none⟩ v0).setCell ⟨b, 1, none⟩ v1).setCell ⟨b, 2, none⟩ v2).setCell ⟨b, 3, none⟩ v3).setCell ⟨b, 4, none⟩ v4).setCell ⟨b, 5, none⟩ v5).setCell ⟨b, 6, none⟩ v6).setCell ⟨b, 7, none⟩ v7
theorem Box.set8L {w : World} {b : Nat} {u0 u1 u2 u3 u4 u5 u6 u7 : Value} {t : TypeId} (h : Box w b #[u0, u1, u2, u3, u4, u5, u6, u7] t) (v0 v1 v2 v3 v4 v5 v6 v7 : Value) : Box (Go.Proofs.YtlifgcgoehkinaaGreatDoor.set8L w b v0 v1 v2 v3 v4 v5 v6 v7) b #[v0, v1, v2, v3, v4, v5, v6, v7] t :=
  have a0 : Box (w.setCell ⟨b, 0, none⟩ v0) b #[v0, u1, u2, u3, u4, u5, u6, u7] t := h.set 0 v0
  have a1 : Box ((w.setCell ⟨b, 0, none⟩ v0).setCell ⟨b, 1, none⟩ v1) b #[v0, v1, u2, u3, u4, u5, u6, u7] t := a0.set 1 v1
  have a2 : Box (((w.setCell ⟨b, 0, none⟩ v0).setCell ⟨b, 1, none⟩ v1).setCell ⟨b, 2, none⟩ v2) b #[v0, v1, v2, u3, u4, u5, u6, u7] t := a1.set 2 v2
  have a3 : Box ((((w.setCell ⟨b, 0, none⟩ v0).setCell ⟨b, 1, none⟩ v1).setCell ⟨b, 2, none⟩ v2).setCell ⟨b, 3, none⟩ v3) b #[v0, v1, v2, v3, u4, u5, u6, u7] t := a2.set 3 v3
  have a4 : Box (((((w.setCell ⟨b, 0, none⟩ v0).setCell ⟨b, 1, none⟩ v1).setCell ⟨b, 2, none⟩ v2).setCell ⟨b, 3, none⟩ v3).setCell ⟨b, 4, none⟩ v4) b #[v0, v1, v2, v3, v4, u5, u6, u7] t := a3.set 4 v4
  have a5 : Box ((((((w.setCell ⟨b, 0, none⟩ v0).setCell ⟨b, 1, none⟩ v1).setCell ⟨b, 2, none⟩ v2).setCell ⟨b, 3, none⟩ v3).setCell ⟨b, 4, none⟩ v4).setCell ⟨b, 5, none⟩ v5) b #[v0, v1, v2, v3, v4, v5, u6, u7] t := a4.set 5 v5
  have a6 : Box (((((((w.setCell ⟨b, 0, none⟩ v0).setCell ⟨b, 1, none⟩ v1).setCell ⟨b, 2, none⟩ v2).setCell ⟨b, 3, none⟩ v3).setCell ⟨b, 4, none⟩ v4).setCell ⟨b, 5, none⟩ v5).setCell ⟨b, 6, none⟩ v6) b #[v0, v1, v2, v3, v4, v5, v6, u7] t := a5.set 6 v6
  a6.set 7 v7
theorem below_set8L {B b : Nat} {w0 w : World} (h : Below B w0 w) (hb : B ≤ b) (v0 v1 v2 v3 v4 v5 v6 v7 : Value) : Below B w0 (set8L w b v0 v1 v2 v3 v4 v5 v6 v7) :=
  (((((((h.setCell (p := ⟨b, 0, none⟩) hb v0).setCell (p := ⟨b, 1, none⟩) hb v1).setCell (p := ⟨b, 2, none⟩) hb v2).setCell (p := ⟨b, 3, none⟩) hb v3).setCell (p := ⟨b, 4, none⟩) hb v4).setCell (p := ⟨b, 5, none⟩) hb v5).setCell (p := ⟨b, 6, none⟩) hb v6).setCell (p := ⟨b, 7, none⟩) hb v7
theorem grown_set8L (w : World) (b : Nat) (v0 v1 v2 v3 v4 v5 v6 v7 : Value) : w.grownBy (set8L w b v0 v1 v2 v3 v4 v5 v6 v7) (some b) :=
  (((((((stored_grown w b 0 v0).trans (stored_grown _ b 1 v1)).trans (stored_grown _ b 2 v2)).trans (stored_grown _ b 3 v3)).trans (stored_grown _ b 4 v4)).trans (stored_grown _ b 5 v5)).trans (stored_grown _ b 6 v6)).trans (stored_grown _ b 7 v7)

theorem SgO.stay {B : Nat} {w w' : World} {v : Value} {bs : List Sg} {hs : List SgH} (h : SgO B w v bs hs) (hz : w.heap.size ≤ w'.heap.size) (h1 : ∀ k, v.ownBlock = some k → w'.heap[k]? = w.heap[k]?) (h2 : ∀ (j : Nat) (x : SgH), hs[j]? = some x → ∀ k, x.mv.ownBlock = some k → w'.heap[k]? = w.heap[k]?) : SgO B w' v bs hs :=
  ⟨h.row.stayG hz h1, h.len, fun j x b e1 e2 => ⟨(h.at' j x b e1 e2).1, (h.at' j x b e1 e2).2.stayG hz (h2 j x e1)⟩, h.far, h.apart⟩

structure GOwn (B T : Nat) (w : World) (v : Value) (l : List Sg) (hs : List SgH) : Prop where
  own : SgO B w v l hs
  le : T ≤ w.heap.size
  row : ∀ k, v.ownBlock = some k → k < T
  its : ∀ (j : Nat) (x : SgH), hs[j]? = some x → ∀ k, x.mv.ownBlock = some k → k < T
theorem SgO.gown {B : Nat} {w : World} {v : Value} {l : List Sg} {hs : List SgH} (h : SgO B w v l hs) : GOwn B w.heap.size w v l hs :=
  ⟨h, Nat.le_refl _, fun k hk => (h.where'.1 k hk).2, fun j x hj k hk => (h.where'.2 j x hj k hk).2⟩
theorem GOwn.kept {B T B' T' : Nat} {w w' : World} {v : Value} {l : List Sg} {hs : List SgH} (h : GOwn B T w v l hs) (hk : Kept B' T' w w') (hd : T ≤ B' ∨ T' ≤ B) : GOwn B T w' v l hs :=
  ⟨h.own.stay hk.size (fun k e => hk.block k (h.own.where'.1 k e).2 (by have := h.row k e; have := (h.own.where'.1 k e).1; omega)) (fun j x hj k e => hk.block k (h.own.where'.2 j x hj k e).2 (by have := h.its j x hj k e; have := (h.own.where'.2 j x hj k e).1; omega)), Nat.le_trans h.le hk.size, h.row, h.its⟩
theorem GOwn.later {B T : Nat} {w w' : World} {v : Value} {l : List Sg} {hs : List SgH} (h : GOwn B T w v l hs) (hb : Below w.heap.size w w') : GOwn B T w' v l hs :=
  h.kept (Kept.of_below hb T T) (.inl (Nat.le_refl _))
theorem GOwn.widen {B T B' T' : Nat} {w : World} {v : Value} {l : List Sg} {hs : List SgH} (h : GOwn B T w v l hs) (hB : B' ≤ B) (hT : T ≤ T') (hs' : T' ≤ w.heap.size) : GOwn B' T' w v l hs :=
  ⟨h.own.lower hB, hs', fun k e => Nat.lt_of_lt_of_le (h.row k e) hT, fun j x hj k e => Nat.lt_of_lt_of_le (h.its j x hj k e) hT⟩

structure LgP (B T : Nat) (w : World) (va vb vu : Value) (L : Lg) (hs : List SgH) : Prop where
  sec : LOwn strE B T w va L.d.sec
  cac : LOwn wrE B T w vb L.d.cache
  two : va.ownBlock = none ∨ va.ownBlock ≠ vb.ownBlock
  use : GOwn B T w vu L.used hs
  far : ∀ k, va.ownBlock = some k ∨ vb.ownBlock = some k → vu.ownBlock ≠ some k ∧ ∀ (j : Nat) (x : SgH), hs[j]? = some x → x.mv.ownBlock ≠ some k
def LgO (B T : Nat) (w : World) (v : Value) (L : Lg) : Prop :=
  ∃ va vb vu hs, v = .agg #[va, vb, .int .i64 L.segs, vu, .int .i64 L.ng, .int .i64 L.ns, .int .i64 L.st, .int .i64 L.nv] ∧ LgP B T w va vb vu L hs
theorem LgP.kept {B T B' T' : Nat} {w w' : World} {va vb vu : Value} {L : Lg} {hs : List SgH} (h : LgP B T w va vb vu L hs) (hk : Kept B' T' w w') (hd : T ≤ B' ∨ T' ≤ B) : LgP B T w' va vb vu L hs :=
  ⟨h.sec.kept hk hd, h.cac.kept hk hd, h.two, h.use.kept hk hd, h.far⟩
theorem LgP.later {B T : Nat} {w w' : World} {va vb vu : Value} {L : Lg} {hs : List SgH} (h : LgP B T w va vb vu L hs) (hb : Below w.heap.size w w') : LgP B T w' va vb vu L hs :=
  h.kept (Kept.of_below hb T T) (.inl (Nat.le_refl _))
theorem LgO.kept {B T B' T' : Nat} {w w' : World} {v : Value} {L : Lg} (h : LgO B T w v L) (hk : Kept B' T' w w') (hd : T ≤ B' ∨ T' ≤ B) : LgO B T w' v L := by
  obtain ⟨va, vb, vu, hs, e, p⟩ := h
  exact ⟨va, vb, vu, hs, e, p.kept hk hd⟩
theorem LgO.later {B T : Nat} {w w' : World} {v : Value} {L : Lg} (h : LgO B T w v L) (hb : Below w.heap.size w w') : LgO B T w' v L :=
  h.kept (Kept.of_below hb T T) (.inl (Nat.le_refl _))
theorem LgP.stay {B T : Nat} {w w' : World} {va vb vu : Value} {L : Lg} {hs : List SgH} (h : LgP B T w va vb vu L hs) (hz : w.heap.size ≤ w'.heap.size) (hk : ∀ q, B ≤ q → q < T → w'.heap[q]? = w.heap[q]?) : LgP B T w' va vb vu L hs :=
  ⟨⟨h.sec.1.stayG hz (fun q e => hk q (h.sec.1.own.lt q e).1 (h.sec.2.2 q e)), Nat.le_trans h.sec.2.1 hz, h.sec.2.2⟩, ⟨h.cac.1.stayG hz (fun q e => hk q (h.cac.1.own.lt q e).1 (h.cac.2.2 q e)), Nat.le_trans h.cac.2.1 hz, h.cac.2.2⟩, h.two,
   ⟨h.use.own.stay hz (fun q e => hk q (h.use.own.where'.1 q e).1 (h.use.row q e)) (fun j x hj q e => hk q (h.use.own.where'.2 j x hj q e).1 (h.use.its j x hj q e)), Nat.le_trans h.use.le hz, h.use.row, h.use.its⟩, h.far⟩
theorem LgP.widen {B T B' T' : Nat} {w : World} {va vb vu : Value} {L : Lg} {hs : List SgH} (h : LgP B T w va vb vu L hs) (hB : B' ≤ B) (hT : T ≤ T') (hz : T' ≤ w.heap.size) : LgP B' T' w va vb vu L hs :=
  ⟨(h.sec.deeper hB).wider hT hz, (h.cac.deeper hB).wider hT hz, h.two, h.use.widen hB hT hz, h.far⟩
theorem LgP.mk2 {B1 T1 B2 T : Nat} {w : World} {va vb vu : Value} {L : Lg} {hs : List SgH} (hd : DOwn B1 T1 w (.agg #[va, vb]) L.d) (hg : GOwn B2 T w vu L.used hs) (h1 : T1 ≤ B2) (h2 : B1 ≤ B2) (h3 : T1 ≤ T) : LgP B1 T w va vb vu L hs := by
  obtain ⟨ua, ub, e, l1, l2, l3⟩ := hd
  simp only [Value.agg.injEq, Array.mk.injEq, List.cons.injEq, and_true] at e
  obtain ⟨rfl, rfl⟩ := e
  refine ⟨l1.wider h3 hg.le, l2.wider h3 hg.le, l3, hg.widen h2 (Nat.le_refl _) hg.le, fun k hk => ?_⟩
  have hlt : k < T1 := by rcases hk with e | e; exact l1.2.2 k e; exact l2.2.2 k e
  refine ⟨fun e => ?_, fun j x hj e => ?_⟩
  · have := (hg.own.where'.1 k e).1; omega
  · have := (hg.own.where'.2 j x hj k e).1; omega
theorem LgP.down {B T : Nat} {w : World} {va vb vu : Value} {L : Lg} {hs : List SgH} (h : LgP B T w va vb vu L hs) : DOwn B T w (.agg #[va, vb]) L.d := ⟨va, vb, rfl, h.sec, h.cac, h.two⟩
theorem LgP.form {B T : Nat} {w : World} {va vb vu : Value} {L : Lg} {hs : List SgH} (h : LgP B T w va vb vu L hs) : ∃ (a b u : Option Addr) (c e f : Nat), va = .slice a L.d.sec.length c ∧ vb = .slice b L.d.cache.length e ∧ vu = .slice u L.used.length f := by
  obtain ⟨a, c, rfl⟩ := h.sec.1.form
  obtain ⟨b, e, rfl⟩ := h.cac.1.form
  obtain ⟨u, f, rfl⟩ := h.use.own.row.form
  exact ⟨a, b, u, c, e, f, rfl, rfl, by rw [h.use.own.len]⟩
theorem LgO.form {B T : Nat} {w : World} {v : Value} {L : Lg} (h : LgO B T w v L) : ∃ (a b u : Option Addr) (c e f : Nat), v = .agg #[.slice a L.d.sec.length c, .slice b L.d.cache.length e, .int .i64 L.segs, .slice u L.used.length f, .int .i64 L.ng, .int .i64 L.ns, .int .i64 L.st, .int .i64 L.nv] := by
  obtain ⟨va, vb, vu, hs, rfl, p⟩ := h
  obtain ⟨a, b, u, c, e, f, rfl, rfl, rfl⟩ := p.form
  exact ⟨a, b, u, c, e, f, rfl⟩

def LRd (w : World) (v : Value) (L : Lg) : Prop :=
  ∃ va vb vu, v = .agg #[va, vb, .int .i64 L.segs, vu, .int .i64 L.ng, .int .i64 L.ns, .int .i64 L.st, .int .i64 L.nv] ∧ DRd w (.agg #[va, vb]) L.d ∧ GRd w vu L.used
theorem LgO.rd {B T : Nat} {w : World} {v : Value} {L : Lg} (h : LgO B T w v L) : LRd w v L := by
  obtain ⟨va, vb, vu, hs, rfl, p⟩ := h
  exact ⟨va, vb, vu, rfl, p.down.rd, p.use.own.rd⟩
theorem LRd.later {w w' : World} {v : Value} {L : Lg} (h : LRd w v L) (hb : Below w.heap.size w w') : LRd w' v L := by
  obtain ⟨va, vb, vu, e, h1, h2⟩ := h
  exact ⟨va, vb, vu, e, h1.later hb, h2.later hb⟩

def LIn (w : World) (v : Value) (L : Lg) : Prop :=
  ∃ va vb vu, v = .agg #[va, vb, .int .i64 L.segs, vu, .int .i64 L.ng, .int .i64 L.ns, .int .i64 L.st, .int .i64 L.nv] ∧ DIn w (.agg #[va, vb]) L.d ∧ LGRd w vu L.used ∧ L.used.length ≤ 9223372036854775807 ∧ ∀ b ∈ L.used, sgShort b
theorem LIn.later {w w' : World} {v : Value} {L : Lg} (h : LIn w v L) (hb : Below w.heap.size w w') : LIn w' v L := by
  obtain ⟨va, vb, vu, e, h1, h2, h3⟩ := h
  exact ⟨va, vb, vu, e, h1.later hb, h2.later hb, h3⟩

def Lg.lean (L : Lg) (left : Int) : Prop := L.d.lean left ∧ ((L.used.length + gIts L.used : Nat) : Int) ≤ left ∧ ∀ b ∈ L.used, sgLean left b

theorem kF_gIts : ∀ (k : Nat) (bs : List Sg), kF k bs = k + 3 * bs.length + 9 * gIts bs
  | k, [] => by simp [kF, gIts]
  | k, b :: bs => by
    have h1 := kF_gIts (kG k b) bs
    unfold kF gIts
    rw [h1, List.length_cons]
    unfold kG
    omega
def Lg.kL (k : Nat) (L : Lg) : Nat := kF (k + L.d.count) L.used
theorem Lg.lean_small (L : Lg) (h : L.lean 1048576) : L.d.small ∧ L.used.length ≤ 1048576 ∧ (∀ b ∈ L.used, b.items.length ≤ 1099511627776) ∧ L.kL 1 ≤ 40000000 ∧ L.d.count ≤ 4000000 := by
  obtain ⟨⟨h1, h2, _, _⟩, h3, _⟩ := h
  have h4 : L.d.count ≤ 4000000 := by unfold Dk.count; omega
  refine ⟨⟨by omega, by omega⟩, by omega, fun b hb => by have := gIts_mem hb; omega, ?_, h4⟩
  unfold Lg.kL
  rw [kF_gIts]
  omega
theorem Lg.lean_texts (L : Lg) (h : L.lean 1048576) : ∀ b ∈ L.used, ∀ x ∈ b.items, x.2.user.size ≤ 1048576 ∧ x.2.name.size ≤ 1048576 ∧ x.2.text.size ≤ 1048576 := fun b hb x hx => by
  have := h.2.2 b hb x hx
  omega

end Go.Proofs.YtlifgcgoehkinaaGreatDoor

/- Lists that came in: a row read cell by cell is a list. -/
namespace Go.Proofs.YtlifgcgoehkinaaGreatDoor
open Go.RowKit Go.ChangeShapes Go.WideShapes Go.ChangeAt Go.Deep Go.Joins

section
variable {W : World}

theorem rows_of_cells {α : Type} [Inhabited α] (E : Enc α) {a : Addr} {len cap : Nat} (hl : len ≤ cap) (hp : ∀ i, i < len → ∃ x : α, ∀ k u, (E.f x)[k]? = some u → W.cell? (a.add (i * E.sz + k)) = some u) (Pr : α → Prop)
    (hpr : ∀ i, i < len → ∀ x : α, (∀ k u, (E.f x)[k]? = some u → W.cell? (a.add (i * E.sz + k)) = some u) → Pr x) :
    ∃ l : List α, l.length = len ∧ Rows' E W (.slice (some a) len cap) l ∧ ∀ x ∈ l, Pr x := by
  obtain ⟨f, hf⟩ := choose_lt hp
  refine ⟨(List.range len).map f, by simp, ?_, ?_⟩
  · by_cases h0 : len = 0
    · subst h0
      exact .inl ⟨rfl, _, _, rfl⟩
    · have hsp : a.spot = none := by
        have hne : (E.f (f 0))[0]? = some ((E.f (f 0))[0]'(by rw [E.len]; exact E.pos)) := List.getElem?_eq_getElem _
        have := hf 0 (by omega) 0 _ hne
        have h2 := World.cell?_spot this
        simpa [Addr.add] using h2
      obtain ⟨b, off, spot⟩ := a
      simp only at hsp
      subst hsp
      refine .inr ⟨b, off, cap, by simp, by simpa using hl, ?_, ?_⟩
      · have hne : (E.f (f 0))[0]? = some ((E.f (f 0))[0]'(by rw [E.len]; exact E.pos)) := List.getElem?_eq_getElem _
        have := hf 0 (by omega) 0 _ hne
        rw [Addr.add_lit] at this
        exact World.block_lt_of_cell? W _ this
      · intro j x hj k u hu
        have hjl : j < len := by have := (List.getElem?_eq_some_iff.1 hj).1; simpa using this
        have hx : f j = x := by simpa [hjl] using hj
        subst hx
        have := hf j hjl k u hu
        rw [Addr.add_lit] at this
        rw [Nat.add_assoc]
        exact this
  · intro x hx
    simp only [List.mem_map, List.mem_range] at hx
    obtain ⟨i, hi, rfl⟩ := hx
    exact hpr i hi _ (hf i hi)
end

end Go.Proofs.YtlifgcgoehkinaaGreatDoor

/- What a disk is that comes in as an argument: its rows can be read. -/
namespace Go.Proofs.YtlifgcgoehkinaaGreatDoor
open Go.RowKit Go.ChangeShapes Go.WideShapes Go.ChangeAt Go.Deep Go.Joins

section
variable {H : Type} {enc : TypeId × Value → H} {W : World}

set_option maxRecDepth 100000 in
theorem strs_of_trod {fuel : Nat} {v : Value} {x : DataW H × List MemPlace} (h : DataW.trod enc Tryz.prog W 0 (fun _ => true) true fuel 22 [v] = some x) :
    ∃ l : List ByteArray, Rows' strE W v l ∧ l.length ≤ maxLen ∧ ∀ s ∈ l, s.size ≤ maxLen := by
  rcases open_slice1 Tryz.underlying22 (by kernel_rfl) h with ⟨hv, _⟩ | ⟨a, len, cap, m, n, V, D, Pl, hv, _, hl, hm, hmm, _, hc⟩
  · simp at hv; subst hv
    exact ⟨[], .inl ⟨rfl, _, _, rfl⟩, by decide, by simp⟩
  · simp at hv; subst hv
    have hm2 : m = cap := by simpa using hmm
    have hex : ∀ i, i < len → ∃ s : ByteArray, W.cell? (a.add i) = some (.string s) ∧ s.size ≤ maxLen := by
      intro i hi
      obtain ⟨h1, h2⟩ := hc i (by omega)
      obtain ⟨s, hs, _, hsz⟩ := DataW.trod_string Tryz.underlying9 h2
      simp at hs
      exact ⟨s, by rw [h1, hs], hsz⟩
    obtain ⟨l, hlen, hr, hp⟩ := rows_of_cells strE hl (fun i hi => by
      obtain ⟨s, hs, _⟩ := hex i hi
      refine ⟨s, fun k u hu => ?_⟩
      match k, hu with
      | 0, hu => simp [strE] at hu; subst hu; rw [show strE.sz = 1 from rfl, Nat.mul_one, Nat.add_zero]; exact hs
      | k + 1, hu => simp [strE] at hu) (fun s => s.size ≤ maxLen) (fun i hi s hs => by
      obtain ⟨t, ht, hts⟩ := hex i hi
      have := hs 0 (.string s) rfl
      rw [show strE.sz = 1 from rfl, Nat.mul_one, Nat.add_zero, ht] at this
      simp at this
      subst this
      exact hts)
    exact ⟨l, hr, by omega, hp⟩

instance : Inhabited Wr := ⟨⟨0, ⟨#[]⟩⟩⟩

set_option maxRecDepth 100000 in
theorem writes_of_trod {fuel : Nat} {v : Value} {x : DataW H × List MemPlace} (h : DataW.trod enc Tryz.prog W 0 (fun _ => true) true fuel 23 [v] = some x) :
    ∃ l : List Wr, Rows' lwrE W v l ∧ l.length ≤ maxLen ∧ ∀ x ∈ l, x.text.size ≤ maxLen := by
  rcases open_slice_pairs Tryz.underlying23 Tryz.underlying98 (by kernel_rfl) rfl rfl (by kernel_rfl) (by kernel_rfl) h with ⟨hv, _⟩ | ⟨a, len, cap, m, n, V0, V1, D0, D1, P0, P1, hv, _, hl, hm, hmm, _, hc⟩
  · simp at hv; subst hv
    exact ⟨[], .inl ⟨rfl, _, _, rfl⟩, by decide, by simp⟩
  · simp at hv; subst hv
    have hm2 : m = cap := by simpa using hmm
    have hex : ∀ i, i < len → ∃ x : Wr, W.cell? (a.add (i * 2)) = some (.int .i64 x.at_) ∧ W.cell? (a.add (i * 2 + 1)) = some (.string x.text) ∧ x.text.size ≤ maxLen := by
      intro i hi
      obtain ⟨h1, h2, h3, h4⟩ := hc i (by omega)
      obtain ⟨s, hs, _, hsz⟩ := DataW.trod_string Tryz.underlying9 h4
      obtain ⟨k, hk, _, _⟩ := DataW.trod_int Tryz.underlying3 h3
      simp at hs hk
      exact ⟨⟨k, s⟩, by rw [h1, hk], by rw [h2, hs], hsz⟩
    obtain ⟨l, hlen, hr, hp⟩ := rows_of_cells lwrE hl (fun i hi => by
      obtain ⟨x, h0, h1, _⟩ := hex i hi
      refine ⟨x, fun k u hu => ?_⟩
      match k, hu with
      | 0, hu => simp [lwrE] at hu; subst hu; exact h0
      | 1, hu => simp [lwrE] at hu; subst hu; exact h1
      | k + 2, hu => simp [lwrE] at hu) (fun x => x.text.size ≤ maxLen) (fun i hi x hx => by
      obtain ⟨y, _, h1, hys⟩ := hex i hi
      have : W.cell? (a.add (i * 2 + 1)) = some (.string x.text) := hx 1 (.string x.text) rfl
      rw [h1] at this
      simp at this
      rw [← this]
      exact hys)
    exact ⟨l, hr, by omega, hp⟩

end

end Go.Proofs.YtlifgcgoehkinaaGreatDoor

/- Lists of numbers in the exact laws: a copy, two alike, marks; and one that comes in. -/
namespace Go.Proofs.YtlifgcgoehkinaaGreatDoor
open Go.RowKit Go.ChangeShapes Go.WideShapes Go.ChangeAt Go.Deep Go.Joins

set_option maxRecDepth 100000 in
set_option maxHeartbeats 1000000 in
theorem toIntS_any (l : List Int) (v : Value) (w : World) (hb : Rows' intE w v l) (hl : l.length ≤ 1048576) :
    Calls Tryz.prog 13 #[v] w fun e w' => ∃ v', e = .returned v' ∧ RBuf intE w.heap.size w w' v' l := by
  obtain ⟨a, cap, rfl⟩ : ∃ (a : Option Addr) (cap : Nat), v = .slice a l.length cap := by
    rcases hb with ⟨rfl, a, c, rfl⟩ | ⟨g, off, c, rfl, _⟩
    · exact ⟨a, c, rfl⟩
    · exact ⟨_, c, rfl⟩
  have HB := Lib.hid hb
  clear hb
  go_enter Tryz.func13, Tryz.ntmps13
  go_wp2_with (at_make; refine wpList_make_rows rfl _ _ intE rfl .i64 .i64 _ _ l.length rfl rfl rfl rfl (by show 9 * l.length ≤ _; omega) ?_; intro w1 hr1 hs1)
  go_loopw [4] (fun iv wr => ∃ i : Nat, i ≤ l.length ∧ iv = .int .i64 (i : Int) ∧ RBuf intE w.heap.size w wr (.slice (some ⟨w.heap.size, 0, none⟩) l.length l.length) (copyTo intE.z0 l i)) (fun iv _ => l.length - (intOf iv).toNat)
  case atStart => exact ⟨0, by omega, rfl, by rw [copyTo_zero]; exact hr1⟩
  case round =>
    obtain ⟨i, hi, rfl, hbr⟩ := hrel
    by_cases hlt : i < l.length
    · obtain ⟨g, off, rfl, hcl⟩ := HB.out.at i hlt
      have hcs := hcl wr hbr.bel 0 _ rfl
      rw [show intE.sz = 1 from rfl, Nat.mul_one, Nat.add_zero] at hcs
      have hi0 : (0 : Int) ≤ (i : Int) := by omega
      have hi1 : (i : Int) < (l.length : Int) := by omega
      have hml := copyTo_length (z := intE.z0) hi
      have hms := copyTo_set (z := intE.z0) hlt
      have hat := copyTo_at (z := intE.z0) hlt
      rw [← hml] at hbr
      have cd : wr.cell? ⟨w.heap.size, i, none⟩ = some (.int .i64 intE.z0) := by
        have := hbr.cell rfl i _ hat 0 _ rfl
        rw [show intE.sz = 1 from rfl, Nat.mul_one, Nat.add_zero] at this
        exact this
      have fd := hbr.loose i
      have hst := hbr.stored i _ l[i] hat 0 (by decide) (.int .i64 l[i]) rfl
      rw [show intE.sz = 1 from rfl, Nat.mul_one, Nat.add_zero, hms, hml] at hst
      clear hcl hbr hat hml hms
      generalize l[i] = t at *
      go_wp2
      go_roundw
      case rel => exact ⟨i + 1, by omega, by go_num, hst⟩
      case measure => simp [intOf]; omega
    · go_wp2
      go_ret
      rw [copyTo_all (by omega)] at hbr
      exact ⟨_, rfl, hbr⟩

set_option maxRecDepth 100000 in
set_option maxHeartbeats 1000000 in
theorem eqIntS_same (l : List Int) (va vb : Value) (w : World) (ha : Rows' intE w va l) (hb : Rows' intE w vb l) (hl : l.length ≤ 1099511627776) :
    Calls Tryz.prog 16 #[va, vb] w fun e w' => e = .returned (.bool true) ∧ Below w.heap.size w w' := by
  rcases ha.ways with ⟨rfl, a, c, rfl⟩ | ⟨hne, ga, oa, ca, rfl, hca, hga, hcla⟩
  · rcases hb.ways with ⟨_, b, d, rfl⟩ | ⟨hne, _⟩
    · clear ha hb
      go_enter Tryz.func16, Tryz.ntmps16
      go_wp2
      go_loop [5] (fun iv => iv = .int .i64 0) (fun _ => 0)
      case atStart => rfl
      case round =>
        obtain rfl := hrel
        go_wp2
        go_ret
        exact ⟨rfl, Below.refl _ _⟩
    · exact absurd rfl hne
  · rcases hb.ways with ⟨e, _⟩ | ⟨_, gb, ob, cb, rfl, hcb, hgb, hclb⟩
    · exact absurd e hne
    · clear ha hb
      have HA := Lib.hid hcla
      have HB := Lib.hid hclb
      clear hcla hclb
      go_enter Tryz.func16, Tryz.ntmps16
      go_wp2
      go_loopw [5] (fun iv wr => ∃ i : Nat, i ≤ l.length ∧ iv = .int .i64 (i : Int) ∧ Below w.heap.size w wr) (fun iv _ => l.length - (intOf iv).toNat)
      case atStart => exact ⟨0, by omega, rfl, Below.refl _ _⟩
      case round =>
        obtain ⟨i, hi, rfl, hbel⟩ := hrel
        by_cases hlt : i < l.length
        · have hg : l[i]? = some l[i] := List.getElem?_eq_getElem hlt
          have h1 := (hbel.cell (p := ⟨ga, oa + i * intE.sz + 0, none⟩) hga).trans (HA.out i _ hg 0 _ rfl)
          have h2 := (hbel.cell (p := ⟨gb, ob + i * intE.sz + 0, none⟩) hgb).trans (HB.out i _ hg 0 _ rfl)
          rw [show intE.sz = 1 from rfl, Nat.mul_one, Nat.add_zero] at h1 h2
          generalize l[i] = t at *
          have hi0 : (0 : Int) ≤ (i : Int) := by omega
          have hi1 : (i : Int) < (l.length : Int) := by omega
          clear hg
          go_wp2
          go_quiet (fail)
          go_wp2
          go_roundw
          case rel => exact ⟨i + 1, by omega, by go_num, below_drewN hbel _⟩
          case measure => simp [intOf]; omega
        · go_wp2
          go_ret
          exact ⟨rfl, hbel⟩


def IsIn (w : World) (v : Value) (l : List Int) : Prop := Rows' intE w v l ∧ l.length ≤ 9223372036854775807

instance : Inhabited Int := ⟨0⟩

end Go.Proofs.YtlifgcgoehkinaaGreatDoor

/- Lists of numbers: each is marked, and the marks are held. -/
namespace Go.Proofs.YtlifgcgoehkinaaGreatDoor
open Go.RowKit

end Go.Proofs.YtlifgcgoehkinaaGreatDoor

/- Stores in memory: a log, and the numbers of segments that are freed. -/
namespace Go.Proofs.YtlifgcgoehkinaaGreatDoor
open Go.RowKit

structure So where
  g : Lg
  fr : List Int

theorem Box.nineL {w : World} {b : Nat} {u0 u1 u2 u3 u4 u5 u6 u7 u8 : Value} {t : TypeId} (h : Box w b #[u0, u1, u2, u3, u4, u5, u6, u7, u8] t) :
    (w.cell? ⟨b, 0, none⟩ = some u0 ∧ w.cell? ⟨b, 1, none⟩ = some u1 ∧ w.cell? ⟨b, 2, none⟩ = some u2 ∧ w.cell? ⟨b, 3, none⟩ = some u3 ∧ w.cell? ⟨b, 4, none⟩ = some u4 ∧ w.cell? ⟨b, 5, none⟩ = some u5 ∧ w.cell? ⟨b, 6, none⟩ = some u6 ∧ w.cell? ⟨b, 7, none⟩ = some u7 ∧ w.cell? ⟨b, 8, none⟩ = some u8) ∧
    w.frozen? ⟨b, 0, none⟩ = false ∧ w.frozen? ⟨b, 1, none⟩ = false ∧ w.frozen? ⟨b, 2, none⟩ = false ∧ w.frozen? ⟨b, 3, none⟩ = false ∧ w.frozen? ⟨b, 4, none⟩ = false ∧ w.frozen? ⟨b, 5, none⟩ = false ∧ w.frozen? ⟨b, 6, none⟩ = false ∧ w.frozen? ⟨b, 7, none⟩ = false ∧ w.frozen? ⟨b, 8, none⟩ = false :=
  ⟨⟨h.cell 0 _ rfl, h.cell 1 _ rfl, h.cell 2 _ rfl, h.cell 3 _ rfl, h.cell 4 _ rfl, h.cell 5 _ rfl, h.cell 6 _ rfl, h.cell 7 _ rfl, h.cell 8 _ rfl⟩, h.loose 0, h.loose 1, h.loose 2, h.loose 3, h.loose 4, h.loose 5, h.loose 6, h.loose 7, h.loose 8⟩
theorem Box.set8S {w : World} {b : Nat} {u0 u1 u2 u3 u4 u5 u6 u7 u8 : Value} {t : TypeId} (h : Box w b #[u0, u1, u2, u3, u4, u5, u6, u7, u8] t) (v0 v1 v2 v3 v4 v5 v6 v7 : Value) : Box (Go.Proofs.YtlifgcgoehkinaaGreatDoor.set8L w b v0 v1 v2 v3 v4 v5 v6 v7) b #[v0, v1, v2, v3, v4, v5, v6, v7, u8] t :=
  have a0 : Box (w.setCell ⟨b, 0, none⟩ v0) b #[v0, u1, u2, u3, u4, u5, u6, u7, u8] t := h.set 0 v0
  have a1 : Box ((w.setCell ⟨b, 0, none⟩ v0).setCell ⟨b, 1, none⟩ v1) b #[v0, v1, u2, u3, u4, u5, u6, u7, u8] t := a0.set 1 v1
  have a2 : Box (((w.setCell ⟨b, 0, none⟩ v0).setCell ⟨b, 1, none⟩ v1).setCell ⟨b, 2, none⟩ v2) b #[v0, v1, v2, u3, u4, u5, u6, u7, u8] t := a1.set 2 v2
  have a3 : Box ((((w.setCell ⟨b, 0, none⟩ v0).setCell ⟨b, 1, none⟩ v1).setCell ⟨b, 2, none⟩ v2).setCell ⟨b, 3, none⟩ v3) b #[v0, v1, v2, v3, u4, u5, u6, u7, u8] t := a2.set 3 v3
  have a4 : Box (((((w.setCell ⟨b, 0, none⟩ v0).setCell ⟨b, 1, none⟩ v1).setCell ⟨b, 2, none⟩ v2).setCell ⟨b, 3, none⟩ v3).setCell ⟨b, 4, none⟩ v4) b #[v0, v1, v2, v3, v4, u5, u6, u7, u8] t := a3.set 4 v4
  have a5 : Box ((((((w.setCell ⟨b, 0, none⟩ v0).setCell ⟨b, 1, none⟩ v1).setCell ⟨b, 2, none⟩ v2).setCell ⟨b, 3, none⟩ v3).setCell ⟨b, 4, none⟩ v4).setCell ⟨b, 5, none⟩ v5) b #[v0, v1, v2, v3, v4, v5, u6, u7, u8] t := a4.set 5 v5
  have a6 : Box (((((((w.setCell ⟨b, 0, none⟩ v0).setCell ⟨b, 1, none⟩ v1).setCell ⟨b, 2, none⟩ v2).setCell ⟨b, 3, none⟩ v3).setCell ⟨b, 4, none⟩ v4).setCell ⟨b, 5, none⟩ v5).setCell ⟨b, 6, none⟩ v6) b #[v0, v1, v2, v3, v4, v5, v6, u7, u8] t := a5.set 6 v6
  a6.set 7 v7

def set9S (w : World) (b : Nat) (v0 v1 v2 v3 v4 v5 v6 v7 v8 : Value) : World := (set8L w b v0 v1 v2 v3 v4 v5 v6 v7).setCell ⟨b, 8, none⟩ v8
theorem Box.set9S {w : World} {b : Nat} {u0 u1 u2 u3 u4 u5 u6 u7 u8 : Value} {t : TypeId} (h : Box w b #[u0, u1, u2, u3, u4, u5, u6, u7, u8] t) (v0 v1 v2 v3 v4 v5 v6 v7 v8 : Value) : Box (Go.Proofs.YtlifgcgoehkinaaGreatDoor.set9S w b v0 v1 v2 v3 v4 v5 v6 v7 v8) b #[v0, v1, v2, v3, v4, v5, v6, v7, v8] t :=
  (h.set8S v0 v1 v2 v3 v4 v5 v6 v7).set 8 v8
theorem below_set9S {B b : Nat} {w0 w : World} (h : Below B w0 w) (hb : B ≤ b) (v0 v1 v2 v3 v4 v5 v6 v7 v8 : Value) : Below B w0 (set9S w b v0 v1 v2 v3 v4 v5 v6 v7 v8) :=
  (below_set8L h hb v0 v1 v2 v3 v4 v5 v6 v7).setCell (p := ⟨b, 8, none⟩) hb v8
theorem grown_set9S (w : World) (b : Nat) (v0 v1 v2 v3 v4 v5 v6 v7 v8 : Value) : w.grownBy (set9S w b v0 v1 v2 v3 v4 v5 v6 v7 v8) (some b) :=
  (grown_set8L w b v0 v1 v2 v3 v4 v5 v6 v7).trans (stored_grown _ b 8 v8)
theorem Box.others8 {w : World} {b g : Nat} {cs : Array Value} {t : TypeId} (h : Box w b cs t) (hne : b ≠ g) (v0 v1 v2 v3 v4 v5 v6 v7 : Value) : Box (Go.Proofs.YtlifgcgoehkinaaGreatDoor.set8L w g v0 v1 v2 v3 v4 v5 v6 v7) b cs t :=
  (((((((h.other (g := g) hne 0 v0).other (g := g) hne 1 v1).other (g := g) hne 2 v2).other (g := g) hne 3 v3).other (g := g) hne 4 v4).other (g := g) hne 5 v5).other (g := g) hne 6 v6).other (g := g) hne 7 v7
theorem size_set8L (w : World) (b : Nat) (v0 v1 v2 v3 v4 v5 v6 v7 : Value) : (set8L w b v0 v1 v2 v3 v4 v5 v6 v7).heap.size = w.heap.size := by unfold set8L; simp

def SoO (B T : Nat) (w : World) (v : Value) (S : So) : Prop :=
  ∃ va vb vu vf hs B1 T1 B2 T2, v = .agg #[va, vb, .int .i64 S.g.segs, vu, .int .i64 S.g.ng, .int .i64 S.g.ns, .int .i64 S.g.st, .int .i64 S.g.nv, vf] ∧ (B ≤ B1 ∧ T1 ≤ T ∧ B ≤ B2 ∧ T2 ≤ T ∧ T ≤ w.heap.size ∧ (T1 ≤ B2 ∨ T2 ≤ B1)) ∧ LgP B1 T1 w va vb vu S.g hs ∧ LOwn intE B2 T2 w vf S.fr
theorem SoO.kept {B T B' T' : Nat} {w w' : World} {v : Value} {S : So} (h : SoO B T w v S) (hk : Kept B' T' w w') (hd : T ≤ B' ∨ T' ≤ B) : SoO B T w' v S := by
  obtain ⟨va, vb, vu, vf, hs, B1, T1, B2, T2, e, n, p, q⟩ := h
  have := hk.size
  exact ⟨va, vb, vu, vf, hs, B1, T1, B2, T2, e, by omega, p.kept hk (by omega), q.kept hk (by omega)⟩
theorem SoO.later {B T : Nat} {w w' : World} {v : Value} {S : So} (h : SoO B T w v S) (hb : Below w.heap.size w w') : SoO B T w' v S :=
  h.kept (Kept.of_below hb T T) (.inl (Nat.le_refl _))
theorem SoO.form {B T : Nat} {w : World} {v : Value} {S : So} (h : SoO B T w v S) : ∃ (a b u f : Option Addr) (c e g i : Nat), v = .agg #[.slice a S.g.d.sec.length c, .slice b S.g.d.cache.length e, .int .i64 S.g.segs, .slice u S.g.used.length g, .int .i64 S.g.ng, .int .i64 S.g.ns, .int .i64 S.g.st, .int .i64 S.g.nv, .slice f S.fr.length i] := by
  obtain ⟨va, vb, vu, vf, hs, B1, T1, B2, T2, rfl, n, p, q⟩ := h
  obtain ⟨a, b, u, c, e, f, rfl, rfl, rfl⟩ := p.form
  obtain ⟨x, i, rfl⟩ := q.1.form
  exact ⟨a, b, u, x, c, e, f, i, rfl⟩
def SoRd (w : World) (v : Value) (S : So) : Prop :=
  ∃ va vb vu vf, v = .agg #[va, vb, .int .i64 S.g.segs, vu, .int .i64 S.g.ng, .int .i64 S.g.ns, .int .i64 S.g.st, .int .i64 S.g.nv, vf] ∧ LRd w (.agg #[va, vb, .int .i64 S.g.segs, vu, .int .i64 S.g.ng, .int .i64 S.g.ns, .int .i64 S.g.st, .int .i64 S.g.nv]) S.g ∧ Rows' intE w vf S.fr
theorem SoO.rd {B T : Nat} {w : World} {v : Value} {S : So} (h : SoO B T w v S) : SoRd w v S := by
  obtain ⟨va, vb, vu, vf, hs, B1, T1, B2, T2, rfl, n, p, q⟩ := h
  exact ⟨va, vb, vu, vf, rfl, LgO.rd ⟨va, vb, vu, hs, rfl, p⟩, q.rows⟩
theorem SoRd.later {w w' : World} {v : Value} {S : So} (h : SoRd w v S) (hb : Below w.heap.size w w') : SoRd w' v S := by
  obtain ⟨va, vb, vu, vf, e, p, q⟩ := h
  exact ⟨va, vb, vu, vf, e, p.later hb, q.later hb⟩
theorem SoO.mk2 {B T B1 T1 B2 T2 : Nat} {w : World} {va vb vu vf : Value} {S : So} (h : LgO B1 T1 w (.agg #[va, vb, .int .i64 S.g.segs, vu, .int .i64 S.g.ng, .int .i64 S.g.ns, .int .i64 S.g.st, .int .i64 S.g.nv]) S.g) (hf : LOwn intE B2 T2 w vf S.fr) (n : B ≤ B1 ∧ T1 ≤ T ∧ B ≤ B2 ∧ T2 ≤ T ∧ T ≤ w.heap.size ∧ (T1 ≤ B2 ∨ T2 ≤ B1)) :
    SoO B T w (.agg #[va, vb, .int .i64 S.g.segs, vu, .int .i64 S.g.ng, .int .i64 S.g.ns, .int .i64 S.g.st, .int .i64 S.g.nv, vf]) S := by
  obtain ⟨ua, ub, uu, hs, e, p⟩ := h
  simp only [Value.agg.injEq, Array.mk.injEq, List.cons.injEq, and_true, true_and] at e
  obtain ⟨rfl, rfl, rfl⟩ := e
  exact ⟨_, _, _, vf, hs, B1, T1, B2, T2, rfl, n, p, hf⟩

def SoIn (w : World) (v : Value) (S : So) : Prop :=
  ∃ va vb vu vf, v = .agg #[va, vb, .int .i64 S.g.segs, vu, .int .i64 S.g.ng, .int .i64 S.g.ns, .int .i64 S.g.st, .int .i64 S.g.nv, vf] ∧ LIn w (.agg #[va, vb, .int .i64 S.g.segs, vu, .int .i64 S.g.ng, .int .i64 S.g.ns, .int .i64 S.g.st, .int .i64 S.g.nv]) S.g ∧ IsIn w vf S.fr
theorem SoIn.later {w w' : World} {v : Value} {S : So} (h : SoIn w v S) (hb : Below w.heap.size w w') : SoIn w' v S := by
  obtain ⟨va, vb, vu, vf, e, p, q, q2⟩ := h
  exact ⟨va, vb, vu, vf, e, p.later hb, q.later hb, q2⟩

def So.lean (S : So) : Prop := S.g.lean 1048576 ∧ S.fr.length ≤ 1048576
def So.kS (k : Nat) (S : So) : Nat := S.g.kL k + S.fr.length

end Go.Proofs.YtlifgcgoehkinaaGreatDoor

/- Records and items that come in as arguments. -/
namespace Go.Proofs.YtlifgcgoehkinaaGreatDoor
open Go.RowKit Go.ChangeShapes Go.WideShapes Go.ChangeAt Go.Deep Go.Joins

theorem list8 {α : Type} {l : List α} (h : l.length = 8) : ∃ v0 v1 v2 v3 v4 v5 v6 v7, l = [v0, v1, v2, v3, v4, v5, v6, v7] := by
  match l, h with
  | [v0, v1, v2, v3, v4, v5, v6, v7], _ => exact ⟨v0, v1, v2, v3, v4, v5, v6, v7, rfl⟩
theorem list9 {α : Type} {l : List α} (h : l.length = 9) : ∃ c v0 v1 v2 v3 v4 v5 v6 v7, l = c :: [v0, v1, v2, v3, v4, v5, v6, v7] := by
  match l, h with
  | [c, v0, v1, v2, v3, v4, v5, v6, v7], _ => exact ⟨c, v0, v1, v2, v3, v4, v5, v6, v7, rfl⟩

section
variable {H : Type} {enc : TypeId × Value → H} {P : Program} {w : World} {base : Nat} {spare : Nat → Bool} {held : Bool}

theorem trod_eight {t : TypeId} {f0 f1 f2 f3 f4 f5 f6 f7 : Field} {fuel : Nat} {cs : List Value} {x : DataW H × List MemPlace} (hs : P.underlying t = some (.struct #[f0, f1, f2, f3, f4, f5, f6, f7])) (hone : oneCellFields P #[f0, f1, f2, f3, f4, f5, f6, f7] = true) (hC : P.cellsOf t = 8)
    (h : DataW.trod enc P w base spare held fuel t cs = some x) :
    ∃ (v0 v1 v2 v3 v4 v5 v6 v7 : Value) (n : Nat), cs = [v0, v1, v2, v3, v4, v5, v6, v7] ∧ (∃ y, DataW.trod enc P w base spare held n f0.type [v0] = some y) ∧ (∃ y, DataW.trod enc P w base spare held n f1.type [v1] = some y) ∧ (∃ y, DataW.trod enc P w base spare held n f2.type [v2] = some y) ∧ (∃ y, DataW.trod enc P w base spare held n f3.type [v3] = some y) ∧ (∃ y, DataW.trod enc P w base spare held n f4.type [v4] = some y) ∧ (∃ y, DataW.trod enc P w base spare held n f5.type [v5] = some y) ∧ (∃ y, DataW.trod enc P w base spare held n f6.type [v6] = some y) ∧ (∃ y, DataW.trod enc P w base spare held n f7.type [v7] = some y) := by
  obtain ⟨xs, n, _, _, hl, hlen, hf⟩ := DataW.trod_struct hs h
  obtain ⟨v0, v1, v2, v3, v4, v5, v6, v7, rfl⟩ := list8 (hl.trans hC)
  have g : ∀ (i : Nat) (f : Field) (v : Value), #[f0, f1, f2, f3, f4, f5, f6, f7][i]? = some f → [v0, v1, v2, v3, v4, v5, v6, v7][i]? = some v → ∃ y, DataW.trod enc P w base spare held n f.type [v] = some y := by
    intro i f v hi hv
    obtain ⟨o, k⟩ := hone_of hone i f hi
    have hx := hf i f hi
    rw [o, k] at hx
    have e : (List.drop i [v0, v1, v2, v3, v4, v5, v6, v7]).take 1 = [v] := by
      rw [List.take_one, List.head?_drop, hv]; rfl
    rw [e] at hx
    have hi' : i < xs.length := by
      rw [hlen]
      exact (Array.getElem?_eq_some_iff.1 hi).1
    exact ⟨xs[i], by first | (rw [hx]; exact List.getElem?_eq_getElem hi') | (rw [List.getElem?_eq_getElem hi'] at hx; exact hx) | simpa [hi'] using hx⟩
  exact ⟨v0, v1, v2, v3, v4, v5, v6, v7, n, rfl, g 0 f0 v0 rfl rfl, g 1 f1 v1 rfl rfl, g 2 f2 v2 rfl rfl, g 3 f3 v3 rfl rfl, g 4 f4 v4 rfl rfl, g 5 f5 v5 rfl rfl, g 6 f6 v6 rfl rfl, g 7 f7 v7 rfl rfl⟩
end

section
variable {H : Type} {enc : TypeId × Value → H} {W : World}

set_option maxRecDepth 100000 in
theorem rec_form {fuel : Nat} {cs : List Value} {x : DataW H × List MemPlace} (h : DataW.trod enc Tryz.prog W 0 (fun _ => true) true fuel 129 cs = some x) :
    ∃ r : Rc, cs = r.cs.toList ∧ r.user.size ≤ 9223372036854775807 ∧ r.name.size ≤ 9223372036854775807 ∧ r.text.size ≤ 9223372036854775807 := by
  obtain ⟨v0, v1, v2, v3, v4, v5, v6, v7, n, rfl, ⟨y0, h0⟩, ⟨y1, h1⟩, ⟨y2, h2⟩, ⟨y3, h3⟩, ⟨y4, h4⟩, ⟨y5, h5⟩, ⟨y6, h6⟩, ⟨y7, h7⟩⟩ := trod_eight Tryz.underlying129 (by kernel_rfl) (by kernel_rfl) h
  obtain ⟨k0, hk0, _, _⟩ := DataW.trod_int Tryz.underlying3 h0
  obtain ⟨k1, hk1, _, _⟩ := DataW.trod_int Tryz.underlying3 h1
  obtain ⟨k2, hk2, _, _⟩ := DataW.trod_int Tryz.underlying3 h2
  obtain ⟨k3, hk3, _, _⟩ := DataW.trod_int Tryz.underlying3 h3
  obtain ⟨k4, hk4, _, _⟩ := DataW.trod_int Tryz.underlying3 h4
  obtain ⟨s5, hk5, _, z5⟩ := DataW.trod_string Tryz.underlying9 h5
  obtain ⟨s6, hk6, _, z6⟩ := DataW.trod_string Tryz.underlying9 h6
  obtain ⟨s7, hk7, _, z7⟩ := DataW.trod_string Tryz.underlying9 h7
  simp at hk0 hk1 hk2 hk3 hk4 hk5 hk6 hk7
  have hml : maxLen ≤ 9223372036854775807 := by decide
  exact ⟨⟨k0, k1, k2, k3, k4, s5, s6, s7⟩, by rw [hk0, hk1, hk2, hk3, hk4, hk5, hk6, hk7]; rfl, Nat.le_trans z5 hml, Nat.le_trans z6 hml, Nat.le_trans z7 hml⟩

end

end Go.Proofs.YtlifgcgoehkinaaGreatDoor

/- Lists of items that come in as an argument. -/
namespace Go.Proofs.YtlifgcgoehkinaaGreatDoor
open Go.RowKit Go.ChangeShapes Go.WideShapes Go.ChangeAt Go.Deep Go.Joins

def ItsIn (W : World) (v : Value) (l : List Itm) : Prop := Rows' litE W v l ∧ l.length ≤ 9223372036854775807 ∧ ∀ x ∈ l, x.2.user.size ≤ 9223372036854775807 ∧ x.2.name.size ≤ 9223372036854775807 ∧ x.2.text.size ≤ 9223372036854775807

instance : Inhabited Itm := ⟨(0, Rc.nil)⟩

section
variable {H : Type} {enc : TypeId × Value → H} {W : World}

set_option maxRecDepth 100000 in
theorem item_form {fuel : Nat} {l : List Value} {x : DataW H × List MemPlace} (hl : l.length = 9) (hf : DataW.trod enc Tryz.prog W 0 (fun _ => true) true fuel 131 l = some x) :
    ∃ y : Itm, l = litE.f y ∧ y.2.user.size ≤ 9223372036854775807 ∧ y.2.name.size ≤ 9223372036854775807 ∧ y.2.text.size ≤ 9223372036854775807 := by
  have hR : Tryz.prog.cellsOf 129 = 8 := by kernel_rfl
  have hN : Tryz.prog.cellsOf 3 = 1 := by kernel_rfl
  obtain ⟨c, v0, v1, v2, v3, v4, v5, v6, v7, rfl⟩ := list9 hl
  obtain ⟨y0, y1, n, _, _, h0, h1⟩ := trod_struct2 Tryz.underlying131 hf
  simp [hR, hN] at h0 h1
  obtain ⟨k0, hk0, _, _⟩ := DataW.trod_int Tryz.underlying3 h0
  obtain ⟨D, hD, z⟩ := rec_form h1
  simp at hk0
  refine ⟨(k0, D), ?_, z⟩
  rw [hD, hk0]; rfl

set_option maxRecDepth 100000 in
theorem items_of_trod {fuel : Nat} {v : Value} {x : DataW H × List MemPlace} (h : DataW.trod enc Tryz.prog W 0 (fun _ => true) true fuel 79 [v] = some x) : ∃ l : List Itm, ItsIn W v l := by
  have hC : Tryz.prog.cellsOf 131 = 9 := by kernel_rfl
  have hml : maxLen ≤ 9223372036854775807 := by decide
  rcases open_slice Tryz.underlying79 h with ⟨hv, _⟩ | ⟨a, len, cap, m, n, D, Pl, hv, _, hl, hm, hmm, _, hc⟩
  · simp at hv; subst hv
    exact ⟨[], .inl ⟨rfl, _, _, rfl⟩, by simp, by simp⟩
  · simp at hv; subst hv
    have hm2 : m = cap := by simpa using hmm
    have hex : ∀ i, i < len → ∃ y : Itm, (∀ k u, (litE.f y)[k]? = some u → W.cell? (a.add (i * 9 + k)) = some u) ∧ y.2.user.size ≤ 9223372036854775807 ∧ y.2.name.size ≤ 9223372036854775807 ∧ y.2.text.size ≤ 9223372036854775807 := by
      intro i hi
      obtain ⟨cs', h1, h2⟩ := hc i (by omega)
      rw [hC] at h1
      obtain ⟨_, hlen, hcell⟩ := World.cells?_some h1
      obtain ⟨y, hy, z⟩ := item_form hlen h2
      refine ⟨y, fun k u hu => ?_, z⟩
      have hk : k < 9 := by have h9 := (List.getElem?_eq_some_iff.1 hu).1; rw [litE.len y] at h9; exact h9
      have := hcell k hk
      rw [add_add] at this
      rw [this, hy]
      exact hu
    obtain ⟨l, hlen, hr, hp⟩ := rows_of_cells litE hl (fun i hi => by
      obtain ⟨y, hy, _⟩ := hex i hi
      exact ⟨y, hy⟩) (fun y => y.2.user.size ≤ 9223372036854775807 ∧ y.2.name.size ≤ 9223372036854775807 ∧ y.2.text.size ≤ 9223372036854775807) (fun i hi y hy => by
      obtain ⟨z, hz, hs⟩ := hex i hi
      have e6 := hy 6 _ rfl
      have e7 := hy 7 _ rfl
      have e8 := hy 8 _ rfl
      have g6 := hz 6 _ rfl
      have g7 := hz 7 _ rfl
      have g8 := hz 8 _ rfl
      change W.cell? (a.add (i * 9 + 6)) = _ at e6
      change W.cell? (a.add (i * 9 + 7)) = _ at e7
      change W.cell? (a.add (i * 9 + 8)) = _ at e8
      rw [g6] at e6
      rw [g7] at e7
      rw [g8] at e8
      simp at e6 e7 e8
      rw [← e6, ← e7, ← e8]
      exact hs)
    exact ⟨l, hr, by omega, hp⟩

end

end Go.Proofs.YtlifgcgoehkinaaGreatDoor
