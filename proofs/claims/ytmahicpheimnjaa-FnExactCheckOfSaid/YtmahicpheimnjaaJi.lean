/- Texts of our own, joined. -/
import Derived.Test.YtmahicpheimnjaaJh
import Derived.Test.YtmahicpheimnjaaJb
import Derived.Test.YtmahicpheimnjaaJa
import Derived.Deep.Slices
import Derived.Lib.SmallJoins
import Derived.ProofKit
import Derived.Deep.SlicePairs
import Derived.Test.YtmahicpheimnjaaJf
import Derived.Test.YtmahicpheimnjaaJg
/- Copies of segments that come in. -/
namespace Go.Proofs.Ytmahicpheimnjaa
open Go.RowKit

def Sg.z : Sg := ⟨0, 0, 0, []⟩

theorem Box.four {w : World} {b : Nat} {u0 u1 u2 u3 : Value} {t : TypeId} (h : Box w b #[u0, u1, u2, u3] t) : w.cell? ⟨b, 0, none⟩ = some u0 ∧ w.cell? ⟨b, 1, none⟩ = some u1 ∧ w.cell? ⟨b, 2, none⟩ = some u2 ∧ w.cell? ⟨b, 3, none⟩ = some u3 ∧ w.frozen? ⟨b, 0, none⟩ = false ∧ w.frozen? ⟨b, 1, none⟩ = false ∧ w.frozen? ⟨b, 2, none⟩ = false ∧ w.frozen? ⟨b, 3, none⟩ = false :=
  ⟨h.cell 0 _ rfl, h.cell 1 _ rfl, h.cell 2 _ rfl, h.cell 3 _ rfl, h.loose 0, h.loose 1, h.loose 2, h.loose 3⟩
def set4 (w : World) (b : Nat) (v0 v1 v2 v3 : Value) : World := (((w.setCell ⟨b, 0, none⟩ v0).setCell ⟨b, 1, none⟩ v1).setCell ⟨b, 2, none⟩ v2).setCell ⟨b, 3, none⟩ v3
theorem Box.set4 {w : World} {b : Nat} {u0 u1 u2 u3 : Value} {t : TypeId} (h : Box w b #[u0, u1, u2, u3] t) (v0 v1 v2 v3 : Value) : Box (Go.Proofs.Ytmahicpheimnjaa.set4 w b v0 v1 v2 v3) b #[v0, v1, v2, v3] t := (((h.set 0 v0).set 1 v1).set 2 v2).set 3 v3
theorem below_set4 {B b : Nat} {w0 w : World} (h : Below B w0 w) (hb : B ≤ b) (v0 v1 v2 v3 : Value) : Below B w0 (set4 w b v0 v1 v2 v3) :=
  (((h.setCell (p := ⟨b, 0, none⟩) hb v0).setCell (p := ⟨b, 1, none⟩) hb v1).setCell (p := ⟨b, 2, none⟩) hb v2).setCell (p := ⟨b, 3, none⟩) hb v3
theorem RBuf.asideG {α : Type} {E : Enc α} {B : Nat} {w : World} {v : Value} {l : List α} (h : RBuf E B w w v l) (g i : Nat) (u : Value) (hg : g < B) : RBuf E B (w.setCell ⟨g, i, none⟩ u) (w.setCell ⟨g, i, none⟩ u) v l := by
  refine h.shift (stored_grown w g i u) ?_
  cases hv : v.ownBlock with
  | none => exact .inl rfl
  | some k => exact .inr (fun e => by have := (h.own.lt k hv).1; have := Option.some.inj e; omega)

/-- Four cells of a row stored. -/
def put4 (w : World) (g i : Nat) (y : SgH) : World := (((w.setCell ⟨g, i * 4, none⟩ (.int .i64 y.no)).setCell ⟨g, i * 4 + 1, none⟩ (.int .i64 y.gen)).setCell ⟨g, i * 4 + 2, none⟩ (.int .i64 y.ende)).setCell ⟨g, i * 4 + 3, none⟩ (.slice y.a y.n y.c)
theorem put4_grown (w : World) (g i : Nat) (y : SgH) : w.grownBy (put4 w g i y) (some g) :=
  (((stored_grown w g (i * 4) _).trans (stored_grown _ g (i * 4 + 1) _)).trans (stored_grown _ g (i * 4 + 2) _)).trans (stored_grown _ g (i * 4 + 3) _)
theorem RBuf.put4 {B : Nat} {w0 w : World} {g cap : Nat} {l : List SgH} (h : RBuf sgE B w0 w (.slice (some ⟨g, 0, none⟩) l.length cap) l) (i : Nat) (x : SgH) (hi : l[i]? = some x) (y : SgH) :
    RBuf sgE B w0 (Go.Proofs.Ytmahicpheimnjaa.put4 w g i y) (.slice (some ⟨g, 0, none⟩) l.length cap) (l.set i y) := by
  have hlt : i < l.length := (List.getElem?_eq_some_iff.1 hi).1
  have hl1 : ∀ z : SgH, (l.set i z).length = l.length := fun z => by simp
  have ha1 : ∀ z : SgH, (l.set i z)[i]? = some z := fun z => List.getElem?_set_self hlt
  have s0 : RBuf sgE B w0 (w.setCell ⟨g, i * 4, none⟩ (.int .i64 y.no)) (.slice (some ⟨g, 0, none⟩) l.length cap) (l.set i ⟨y.no, x.gen, x.ende, x.a, x.n, x.c⟩) := h.stored i _ ⟨y.no, x.gen, x.ende, x.a, x.n, x.c⟩ hi 0 (by decide) (.int .i64 y.no) rfl
  rw [← hl1 ⟨y.no, x.gen, x.ende, x.a, x.n, x.c⟩] at s0
  have s1 := s0.stored i _ ⟨y.no, y.gen, x.ende, x.a, x.n, x.c⟩ (ha1 _) 1 (by decide) (.int .i64 y.gen) rfl
  rw [List.set_set, hl1] at s1
  rw [← hl1 ⟨y.no, y.gen, x.ende, x.a, x.n, x.c⟩] at s1
  have s2 := s1.stored i _ ⟨y.no, y.gen, y.ende, x.a, x.n, x.c⟩ (ha1 _) 2 (by decide) (.int .i64 y.ende) rfl
  rw [List.set_set, hl1] at s2
  rw [← hl1 ⟨y.no, y.gen, y.ende, x.a, x.n, x.c⟩] at s2
  have s3 := s2.stored i _ ⟨y.no, y.gen, y.ende, y.a, y.n, y.c⟩ (ha1 _) 3 (by decide) (.slice y.a y.n y.c) rfl
  rw [List.set_set, hl1] at s3
  exact s3

/-- A whole segment is put at its place. -/
theorem SgO.put {B : Nat} {w : World} {g cap n : Nat} {bs : List Sg} {hs : List SgH} (h : SgO B w (.slice (some ⟨g, 0, none⟩) n cap) bs hs) (hn : n = hs.length) {i : Nat} {x0 : SgH} (hi : hs[i]? = some x0) (x : SgH) (b : Sg)
    (hx : x.no = b.no ∧ x.gen = b.gen ∧ x.ende = b.ende) (hm : RBuf itE B w w x.mv b.items) (hf : ∀ k, x.mv.ownBlock = some k → k ≠ g)
    (ha : ∀ (j : Nat) (y : SgH), j ≠ i → hs[j]? = some y → ∀ k, x.mv.ownBlock = some k → y.mv.ownBlock ≠ some k) :
    SgO B (Go.Proofs.Ytmahicpheimnjaa.put4 w g i x) (.slice (some ⟨g, 0, none⟩) n cap) (bs.set i b) (hs.set i x) := by
  subst hn
  have hg := put4_grown w g i x
  have kept : ∀ (m : Value) (l : List Itm), RBuf itE B w w m l → (∀ k, m.ownBlock = some k → k ≠ g) → RBuf itE B (Go.Proofs.Ytmahicpheimnjaa.put4 w g i x) (Go.Proofs.Ytmahicpheimnjaa.put4 w g i x) m l := fun m l hm hf => by
    refine hm.shift hg ?_
    cases hmb : m.ownBlock with
    | none => exact .inl rfl
    | some k => exact .inr (fun e => hf k hmb (Option.some.inj e))
  have far0 : ∀ {j : Nat} {y : SgH}, hs[j]? = some y → ∀ k, y.mv.ownBlock = some k → k ≠ g := fun {j y} hj k hk e => h.far j y hj k hk (by rw [e]; rfl)
  refine ⟨(h.row.put4 i x0 hi x).here, by simp [h.len], fun j y d h1 h2 => ?_, fun j y h1 k hk => ?_, fun j k y z h1 h2 hjk q hq => ?_⟩
  · rcases set_waysG h1 with ⟨rfl, rfl⟩ | ⟨hne, h1⟩
    · rcases set_waysG h2 with ⟨_, rfl⟩ | ⟨hne, _⟩
      · exact ⟨hx, kept _ _ hm hf⟩
      · exact absurd rfl hne
    · rcases set_waysG h2 with ⟨e, _⟩ | ⟨_, h2⟩
      · exact absurd e hne
      · exact ⟨(h.at' j y d h1 h2).1, kept _ _ (h.at' j y d h1 h2).2 (far0 h1)⟩
  · rcases set_waysG h1 with ⟨rfl, rfl⟩ | ⟨hne, h1⟩
    · intro e; exact hf k hk (Option.some.inj e).symm
    · exact h.far j y h1 k hk
  · rcases set_waysG h1 with ⟨ej, ey⟩ | ⟨nj, g1⟩
    · rcases set_waysG h2 with ⟨ek, _⟩ | ⟨nk, g2⟩
      · exact absurd (ej.trans ek.symm) hjk
      · rw [ey] at hq
        exact ha k z nk g2 q hq
    · rcases set_waysG h2 with ⟨_, ez⟩ | ⟨_, g2⟩
      · rw [ez]; intro e; exact ha j y nj g1 q e hq
      · exact h.apart j k y z g1 g2 hjk q hq

set_option maxRecDepth 100000 in
set_option maxHeartbeats 2000000 in
theorem toSeg_any (b : Sg) (a : Option Addr) (n c : Nat) (w : World) (h : Rows' litE w (.slice a n c) b.items) (hl : b.items.length ≤ 1048576) :
    Calls Try.prog 74 #[.agg #[.int .i64 b.no, .int .i64 b.gen, .int .i64 b.ende, .slice a n c]] w fun e w' => ∃ (p : Option Addr) (k q : Nat), e = .returned (.agg #[.int .i64 b.no, .int .i64 b.gen, .int .i64 b.ende, .slice p k q]) ∧ RBuf itE w.heap.size w' w' (.slice p k q) b.items ∧ Below w.heap.size w w' := by
  have bA := belNew w (.cells #[.int .i64 b.no, .int .i64 b.gen, .int .i64 b.ende, .slice a n c] 131)
  obtain ⟨wA, hwA⟩ : ∃ wA, wA = w.alloc (.cells #[.int .i64 b.no, .int .i64 b.gen, .int .i64 b.ende, .slice a n c] 131) := ⟨_, rfl⟩
  have eA : wA.heap.size = w.heap.size + 1 := by rw [hwA]; simp
  rw [← hwA] at bA
  have hB := Box.new wA #[.int .i64 0, .int .i64 0, .int .i64 0, .slice none 0 0] 90
  have bB := bA.trans ((belNew wA (.cells #[.int .i64 0, .int .i64 0, .int .i64 0, .slice none 0 0] 90)).mono bA.size)
  obtain ⟨wB, hwB⟩ : ∃ wB, wB = wA.alloc (.cells #[.int .i64 0, .int .i64 0, .int .i64 0, .slice none 0 0] 90) := ⟨_, rfl⟩
  have eB : wB.heap.size = w.heap.size + 1 + 1 := by rw [hwB]; simp; omega
  rw [← hwB] at hB bB
  rw [eA] at hB
  have hC := Box.new wB #[.int .i64 b.no, .int .i64 b.gen, .int .i64 b.ende, .slice none 0 0] 90
  have kC := belNew wB (.cells #[.int .i64 b.no, .int .i64 b.gen, .int .i64 b.ende, .slice none 0 0] 90)
  have bC := bB.trans (kC.mono bB.size)
  obtain ⟨wC, hwC⟩ : ∃ wC, wC = wB.alloc (.cells #[.int .i64 b.no, .int .i64 b.gen, .int .i64 b.ende, .slice none 0 0] 90) := ⟨_, rfl⟩
  have eC : wC.heap.size = w.heap.size + 1 + 1 + 1 := by rw [hwC]; simp; omega
  rw [← hwC] at hC kC bC
  rw [eB] at hC
  have hB' := hB.later kC
  have HT := Lib.hid (toItemS_any b.items _ wC (h.later bC) hl)
  have HEC := Lib.hid eC
  have HWC : Hid (wC = ((w.alloc (.cells #[.int .i64 b.no, .int .i64 b.gen, .int .i64 b.ende, .slice a n c] 131)).alloc (.cells #[.int .i64 0, .int .i64 0, .int .i64 0, .slice none 0 0] 90)).alloc (.cells #[.int .i64 b.no, .int .i64 b.gen, .int .i64 b.ende, .slice none 0 0] 90)) := by rw [← hwA, ← hwB, ← hwC]; exact rfl
  clear h hB bB bA kC eA eB eC hwA hwB hwC
  go_enter Try.func74, Try.ntmps74
  go_wp2_with fail
  rw [← HWC.out]
  refine HT.out.mono ?_
  rintro e w1 ⟨v1, rfl, R1⟩
  obtain ⟨p, q, rfl⟩ := R1.form
  have B1 := hB'.later R1.bel
  have C1 := hC.later R1.bel
  have b1 := bC.trans (R1.bel.mono bC.size)
  obtain ⟨u0, u1, u2, u3, f0, f1, f2, f3⟩ := B1.four
  obtain ⟨x0, x1, x2, x3, y0, y1, y2, y3⟩ := C1.four
  have C2 : Box (w1.setCell ⟨w.heap.size + 1 + 1, 3, none⟩ (.slice p b.items.length q)) (w.heap.size + 1 + 1) #[.int .i64 b.no, .int .i64 b.gen, .int .i64 b.ende, .slice p b.items.length q] 90 := C1.set 3 _
  have B2 : Box (w1.setCell ⟨w.heap.size + 1 + 1, 3, none⟩ (.slice p b.items.length q)) (w.heap.size + 1) #[.int .i64 0, .int .i64 0, .int .i64 0, .slice none 0 0] 90 := B1.other (by omega) 3 _
  have hg1 : w.heap.size + 1 + 1 < wC.heap.size := by have := HEC.out; omega
  have R2 := Lib.hid (R1.here.asideG (w.heap.size + 1 + 1) 3 (.slice p b.items.length q) hg1)
  have b2 := Lib.hid (b1.setCell (p := ⟨w.heap.size + 1 + 1, 3, none⟩) (show w.heap.size ≤ w.heap.size + 1 + 1 by omega) (.slice p b.items.length q))
  have HG := Lib.hid hg1
  clear hB' hC bC HT HWC HEC B1 C1 b1 R1 hg1
  go_upto_region 6 with fail
  generalize w1.setCell ⟨w.heap.size + 1 + 1, 3, none⟩ (.slice p b.items.length q) = w2 at C2 B2 R2 b2 ⊢
  clear u0 u1 u2 u3 x0 x1 x2 x3 f0 f1 f2 f3 y0 y1 y2 y3
  obtain ⟨u0, u1, u2, u3, f0, f1, f2, f3⟩ := B2.four
  obtain ⟨x0, x1, x2, x3, y0, y1, y2, y3⟩ := C2.four
  have L5 := B2.set4 (.int .i64 b.no) (.int .i64 b.gen) (.int .i64 b.ende) (.slice p b.items.length q)
  unfold set4 at L5
  obtain ⟨z0, z1, z2, z3, _⟩ := L5.four
  clear L5 B2 C2
  go_wp2
  refine bodyPost_ret (v := .agg #[.int .i64 b.no, .int .i64 b.gen, .int .i64 b.ende, .slice p b.items.length q]) (by simp [results, Try.results74, go_sem, z0, z1, z2, z3]) rfl ⟨_, _, _, rfl, ?_, ?_⟩
  · have hl : w.heap.size + 1 < wC.heap.size := by have := HG.out; omega
    exact ((((R2.out.asideG _ 0 _ hl).asideG _ 1 _ hl).asideG _ 2 _ hl).asideG _ 3 _ hl).lower (by omega)
  · exact (((b2.out.setCell (p := ⟨w.heap.size + 1, 0, none⟩) (by simp) _).setCell (p := ⟨w.heap.size + 1, 1, none⟩) (by simp) _).setCell (p := ⟨w.heap.size + 1, 2, none⟩) (by simp) _).setCell (p := ⟨w.heap.size + 1, 3, none⟩) (by simp) _

set_option maxRecDepth 100000 in
set_option maxHeartbeats 4000000 in
theorem toSegS_any (l : List Sg) (v : Value) (w : World) (h : LGRd w v l) (hl : l.length ≤ 1048576) (hm : ∀ b ∈ l, b.items.length ≤ 1048576) :
    Calls Try.prog 42 #[v] w fun e w' => ∃ v' hs, e = .returned v' ∧ SgO w.heap.size w' v' l hs ∧ Below w.heap.size w w' := by
  obtain ⟨a, cap, rfl, hrow⟩ := h.segs
  have HR := Lib.hid hrow
  have HM := Lib.hid hm
  clear h hrow hm
  go_enter Try.func42, Try.ntmps42
  go_wp2_with (at_make; refine wpList_make_rows rfl _ _ sgE rfl .i64 .i64 _ _ l.length rfl rfl rfl rfl (by show 49 * l.length ≤ _; omega) ?_; intro w1 hr1 hs1)
  have S0 : SgO w.heap.size w1 (.slice (some ⟨w.heap.size, 0, none⟩) l.length l.length) (copyTo Sg.z l 0) (List.replicate l.length sgE.z0) := by
    rw [copyTo_zero]
    refine ⟨hr1.here, by simp, fun j x b h1 h2 => ?_, fun j x h1 k hk => ?_, fun i j x y h1 h2 _ k hk => ?_⟩
    · rw [List.getElem?_replicate] at h1 h2
      split at h1
      · rename_i c
        rw [if_pos c] at h2
        cases h1
        cases h2
        exact ⟨⟨rfl, rfl, rfl⟩, ⟨World.ownsRow_nil _ _ _ _, Below.refl _ _, hr1.le⟩⟩
      · cases h1
    · rw [List.getElem?_replicate] at h1
      split at h1
      · cases h1; cases hk
      · cases h1
    · rw [List.getElem?_replicate] at h1
      split at h1
      · cases h1; cases hk
      · cases h1
  have B0 : Below w.heap.size w w1 := hr1.bel
  go_loopw [4] (fun iv wr => ∃ (i : Nat) (hs : List SgH), i ≤ l.length ∧ iv = .int .i64 (i : Int) ∧ SgO w.heap.size wr (.slice (some ⟨w.heap.size, 0, none⟩) l.length l.length) (copyTo Sg.z l i) hs ∧ Below w.heap.size w wr) (fun iv _ => l.length - (intOf iv).toNat)
  case atStart => exact ⟨0, _, by omega, rfl, S0, B0⟩
  case round =>
    clear S0 B0 hr1 hs1
    obtain ⟨i, hs, hi, rfl, S, hb⟩ := hrel
    by_cases hlt : i < l.length
    · have hgx : l[i]? = some l[i] := List.getElem?_eq_getElem hlt
      obtain ⟨ga, oa, am, nm, cm, rfl, a0, a1, a2, a3, rm⟩ := HR.out _ hb i _ hgx
      have hi0 : (0 : Int) ≤ (i : Int) := by omega
      have hi1 : (i : Int) < (l.length : Int) := by omega
      have hml := copyTo_length (z := Sg.z) hi
      have hms := copyTo_set (z := Sg.z) hlt
      have hat := copyTo_at (z := Sg.z) hlt
      have hhl : l.length = hs.length := by rw [S.len, hml]
      obtain ⟨x0, hx0⟩ : ∃ x0, hs[i]? = some x0 := ⟨_, List.getElem?_eq_getElem (by omega)⟩
      have HF : Hid (∀ w1, Below wr.heap.size wr w1 → ∃ (v0 v1 v2 : Int) (pa : Option Addr) (pn pc : Nat), w1.cell? ⟨w.heap.size, i * 4, none⟩ = some (.int .i64 v0) ∧ w1.frozen? ⟨w.heap.size, i * 4, none⟩ = false ∧ w1.cell? ⟨w.heap.size, i * 4 + 1, none⟩ = some (.int .i64 v1) ∧ w1.frozen? ⟨w.heap.size, i * 4 + 1, none⟩ = false ∧ w1.cell? ⟨w.heap.size, i * 4 + 2, none⟩ = some (.int .i64 v2) ∧ w1.frozen? ⟨w.heap.size, i * 4 + 2, none⟩ = false ∧ w1.cell? ⟨w.heap.size, i * 4 + 3, none⟩ = some (.slice pa pn pc) ∧ w1.frozen? ⟨w.heap.size, i * 4 + 3, none⟩ = false) := by
        intro w1 hb1
        have h1 := S.later hb1
        have c0 := h1.cellAt hx0 hhl 0 _ rfl
        have c1 := h1.cellAt hx0 hhl 1 _ rfl
        have c2 := h1.cellAt hx0 hhl 2 _ rfl
        have c3 := h1.cellAt hx0 hhl 3 _ rfl
        exact ⟨_, _, _, _, _, _, c0.1, c0.2, c1.1, c1.2, c2.1, c2.2, c3.1, c3.2⟩
      have hmx := HM.out l[i] (List.getElem_mem hlt)
      generalize hx : l[i] = x at *
      have HT := Lib.hid (toSeg_any x am nm cm wr (rm.later hb) hmx)
      have HX0 := Lib.hid hx0
      have HHL := Lib.hid hhl
      clear hgx rm hx0 hhl hx hmx
      go_wp2_with (go_at_call 74; refine HT.out.mono ?_; rintro e w1 ⟨pp, pk, pq, rfl, RM, hb1⟩; obtain ⟨v0, v1, v2, pa, pn, pc, d0, f0, d1, f1, d2, f2, d3, f3⟩ := HF.out w1 hb1)
      have hp := (S.later hb1).put HHL.out HX0.out ⟨x.no, x.gen, x.ende, pp, pk, pq⟩ x ⟨rfl, rfl, rfl⟩ (RM.lower hb.size) (fun k hk e => by
        have h1 := (RM.own.lt k hk).1
        have h2 := (S.where'.1 w.heap.size rfl).2
        omega) (fun j y _ hj k hk e => by
        have h1 := (RM.own.lt k hk).1
        have h2 := (S.where'.2 j y hj k e).2
        omega)
      rw [hms] at hp
      have hbz : Below w.heap.size w (put4 w1 w.heap.size i ⟨x.no, x.gen, x.ende, pp, pk, pq⟩) := (hb.trans (hb1.mono hb.size)).grown (put4_grown _ _ _ _) (Nat.le_trans hb.size hb1.size) (fun k hk => by have := Option.some.inj hk; omega)
      unfold put4 at hp hbz
      go_roundw
      case rel => exact ⟨i + 1, _, by omega, by go_num, hp, hbz⟩
      case measure => simp [intOf]; omega
    · go_wp2
      go_ret
      rw [copyTo_all (by omega)] at S
      exact ⟨_, _, rfl, S, hb⟩

end Go.Proofs.Ytmahicpheimnjaa

/- Logs in memory: a disk, and segments in use. -/
namespace Go.Proofs.Ytmahicpheimnjaa
open Go.RowKit

/-- A log. -/
structure Lg where
  d : Dk
  segs : Int
  used : List Sg
  ng : Int
  ns : Int
  st : Int
  nv : Int

theorem RBuf.stayG {α : Type} {E : Enc α} {B : Nat} {w w' : World} {v : Value} {l : List α} (h : RBuf E B w w v l) (hz : w.heap.size ≤ w'.heap.size) (hk : ∀ k, v.ownBlock = some k → w'.heap[k]? = w.heap[k]?) : RBuf E B w' w' v l := by
  refine ⟨⟨h.own.1, ?_⟩, Below.refl _ _, Nat.le_trans h.le hz⟩
  rcases h.own.2 with h1 | ⟨g, cap, cur, h1, h2, h3, h4⟩
  · exact .inl h1
  · exact .inr ⟨g, cap, cur, h1, h2, (hk g (by rw [h1]; rfl)).trans h3, h4⟩
theorem Box.keptG {b B T : Nat} {w w' : World} {cs : Array Value} {t : TypeId} (h : Box w b cs t) (hk : Kept B T w w') (hb : b < B ∨ T ≤ b) : Box w' b cs t := (hk.block b h.lt hb).trans h
theorem Box.eightL {w : World} {b : Nat} {u0 u1 u2 u3 u4 u5 u6 u7 : Value} {t : TypeId} (h : Box w b #[u0, u1, u2, u3, u4, u5, u6, u7] t) :
    w.cell? ⟨b, 0, none⟩ = some u0 ∧ w.cell? ⟨b, 1, none⟩ = some u1 ∧ w.cell? ⟨b, 2, none⟩ = some u2 ∧ w.cell? ⟨b, 3, none⟩ = some u3 ∧ w.cell? ⟨b, 4, none⟩ = some u4 ∧ w.cell? ⟨b, 5, none⟩ = some u5 ∧ w.cell? ⟨b, 6, none⟩ = some u6 ∧ w.cell? ⟨b, 7, none⟩ = some u7 ∧
    w.frozen? ⟨b, 0, none⟩ = false ∧ w.frozen? ⟨b, 1, none⟩ = false ∧ w.frozen? ⟨b, 2, none⟩ = false ∧ w.frozen? ⟨b, 3, none⟩ = false ∧ w.frozen? ⟨b, 4, none⟩ = false ∧ w.frozen? ⟨b, 5, none⟩ = false ∧ w.frozen? ⟨b, 6, none⟩ = false ∧ w.frozen? ⟨b, 7, none⟩ = false :=
  ⟨h.cell 0 _ rfl, h.cell 1 _ rfl, h.cell 2 _ rfl, h.cell 3 _ rfl, h.cell 4 _ rfl, h.cell 5 _ rfl, h.cell 6 _ rfl, h.cell 7 _ rfl, h.loose 0, h.loose 1, h.loose 2, h.loose 3, h.loose 4, h.loose 5, h.loose 6, h.loose 7⟩
def set8L (w : World) (b : Nat) (v0 v1 v2 v3 v4 v5 v6 v7 : Value) : World := (((((((w.setCell ⟨b, 0, none⟩ v0).setCell ⟨b, 1, none⟩ v1).setCell ⟨b, 2, none⟩ v2).setCell ⟨b, 3, none⟩ v3).setCell ⟨b, 4, none⟩ v4).setCell ⟨b, 5, none⟩ v5).setCell ⟨b, 6, none⟩ v6).setCell ⟨b, 7, none⟩ v7
theorem Box.set8L {w : World} {b : Nat} {u0 u1 u2 u3 u4 u5 u6 u7 : Value} {t : TypeId} (h : Box w b #[u0, u1, u2, u3, u4, u5, u6, u7] t) (v0 v1 v2 v3 v4 v5 v6 v7 : Value) : Box (Go.Proofs.Ytmahicpheimnjaa.set8L w b v0 v1 v2 v3 v4 v5 v6 v7) b #[v0, v1, v2, v3, v4, v5, v6, v7] t :=
  have a0 : Box (w.setCell ⟨b, 0, none⟩ v0) b #[v0, u1, u2, u3, u4, u5, u6, u7] t := h.set 0 v0
  have a1 : Box ((w.setCell ⟨b, 0, none⟩ v0).setCell ⟨b, 1, none⟩ v1) b #[v0, v1, u2, u3, u4, u5, u6, u7] t := a0.set 1 v1
  have a2 : Box (((w.setCell ⟨b, 0, none⟩ v0).setCell ⟨b, 1, none⟩ v1).setCell ⟨b, 2, none⟩ v2) b #[v0, v1, v2, u3, u4, u5, u6, u7] t := a1.set 2 v2
  have a3 : Box ((((w.setCell ⟨b, 0, none⟩ v0).setCell ⟨b, 1, none⟩ v1).setCell ⟨b, 2, none⟩ v2).setCell ⟨b, 3, none⟩ v3) b #[v0, v1, v2, v3, u4, u5, u6, u7] t := a2.set 3 v3
  have a4 : Box (((((w.setCell ⟨b, 0, none⟩ v0).setCell ⟨b, 1, none⟩ v1).setCell ⟨b, 2, none⟩ v2).setCell ⟨b, 3, none⟩ v3).setCell ⟨b, 4, none⟩ v4) b #[v0, v1, v2, v3, v4, u5, u6, u7] t := a3.set 4 v4
  have a5 : Box ((((((w.setCell ⟨b, 0, none⟩ v0).setCell ⟨b, 1, none⟩ v1).setCell ⟨b, 2, none⟩ v2).setCell ⟨b, 3, none⟩ v3).setCell ⟨b, 4, none⟩ v4).setCell ⟨b, 5, none⟩ v5) b #[v0, v1, v2, v3, v4, v5, u6, u7] t := a4.set 5 v5
  have a6 : Box (((((((w.setCell ⟨b, 0, none⟩ v0).setCell ⟨b, 1, none⟩ v1).setCell ⟨b, 2, none⟩ v2).setCell ⟨b, 3, none⟩ v3).setCell ⟨b, 4, none⟩ v4).setCell ⟨b, 5, none⟩ v5).setCell ⟨b, 6, none⟩ v6) b #[v0, v1, v2, v3, v4, v5, v6, u7] t := a5.set 6 v6
  a6.set 7 v7
theorem below_set8L {B b : Nat} {w0 w : World} (h : Below B w0 w) (hb : B ≤ b) (v0 v1 v2 v3 v4 v5 v6 v7 : Value) : Below B w0 (set8L w b v0 v1 v2 v3 v4 v5 v6 v7) :=
  (((((((h.setCell (p := ⟨b, 0, none⟩) hb v0).setCell (p := ⟨b, 1, none⟩) hb v1).setCell (p := ⟨b, 2, none⟩) hb v2).setCell (p := ⟨b, 3, none⟩) hb v3).setCell (p := ⟨b, 4, none⟩) hb v4).setCell (p := ⟨b, 5, none⟩) hb v5).setCell (p := ⟨b, 6, none⟩) hb v6).setCell (p := ⟨b, 7, none⟩) hb v7
theorem grown_set8L (w : World) (b : Nat) (v0 v1 v2 v3 v4 v5 v6 v7 : Value) : w.grownBy (set8L w b v0 v1 v2 v3 v4 v5 v6 v7) (some b) :=
  (((((((stored_grown w b 0 v0).trans (stored_grown _ b 1 v1)).trans (stored_grown _ b 2 v2)).trans (stored_grown _ b 3 v3)).trans (stored_grown _ b 4 v4)).trans (stored_grown _ b 5 v5)).trans (stored_grown _ b 6 v6)).trans (stored_grown _ b 7 v7)

theorem SgO.stay {B : Nat} {w w' : World} {v : Value} {bs : List Sg} {hs : List SgH} (h : SgO B w v bs hs) (hz : w.heap.size ≤ w'.heap.size) (h1 : ∀ k, v.ownBlock = some k → w'.heap[k]? = w.heap[k]?) (h2 : ∀ (j : Nat) (x : SgH), hs[j]? = some x → ∀ k, x.mv.ownBlock = some k → w'.heap[k]? = w.heap[k]?) : SgO B w' v bs hs :=
  ⟨h.row.stayG hz h1, h.len, fun j x b e1 e2 => ⟨(h.at' j x b e1 e2).1, (h.at' j x b e1 e2).2.stayG hz (h2 j x e1)⟩, h.far, h.apart⟩

/-- Segments in memory of their own, in the blocks B .. T-1. -/
structure GOwn (B T : Nat) (w : World) (v : Value) (l : List Sg) (hs : List SgH) : Prop where
  own : SgO B w v l hs
  le : T ≤ w.heap.size
  row : ∀ k, v.ownBlock = some k → k < T
  its : ∀ (j : Nat) (x : SgH), hs[j]? = some x → ∀ k, x.mv.ownBlock = some k → k < T
theorem SgO.gown {B : Nat} {w : World} {v : Value} {l : List Sg} {hs : List SgH} (h : SgO B w v l hs) : GOwn B w.heap.size w v l hs :=
  ⟨h, Nat.le_refl _, fun k hk => (h.where'.1 k hk).2, fun j x hj k hk => (h.where'.2 j x hj k hk).2⟩
theorem GOwn.kept {B T B' T' : Nat} {w w' : World} {v : Value} {l : List Sg} {hs : List SgH} (h : GOwn B T w v l hs) (hk : Kept B' T' w w') (hd : T ≤ B' ∨ T' ≤ B) : GOwn B T w' v l hs :=
  ⟨h.own.stay hk.size (fun k e => hk.block k (h.own.where'.1 k e).2 (by have := h.row k e; have := (h.own.where'.1 k e).1; omega)) (fun j x hj k e => hk.block k (h.own.where'.2 j x hj k e).2 (by have := h.its j x hj k e; have := (h.own.where'.2 j x hj k e).1; omega)), Nat.le_trans h.le hk.size, h.row, h.its⟩
theorem GOwn.later {B T : Nat} {w w' : World} {v : Value} {l : List Sg} {hs : List SgH} (h : GOwn B T w v l hs) (hb : Below w.heap.size w w') : GOwn B T w' v l hs :=
  h.kept (Kept.of_below hb T T) (.inl (Nat.le_refl _))
theorem GOwn.widen {B T B' T' : Nat} {w : World} {v : Value} {l : List Sg} {hs : List SgH} (h : GOwn B T w v l hs) (hB : B' ≤ B) (hT : T ≤ T') (hs' : T' ≤ w.heap.size) : GOwn B' T' w v l hs :=
  ⟨h.own.lower hB, hs', fun k e => Nat.lt_of_lt_of_le (h.row k e) hT, fun j x hj k e => Nat.lt_of_lt_of_le (h.its j x hj k e) hT⟩

/-- The parts of a log, in memory of their own, all apart. -/
structure LgP (B T : Nat) (w : World) (va vb vu : Value) (L : Lg) (hs : List SgH) : Prop where
  sec : LOwn strE B T w va L.d.sec
  cac : LOwn wrE B T w vb L.d.cache
  two : va.ownBlock = none ∨ va.ownBlock ≠ vb.ownBlock
  use : GOwn B T w vu L.used hs
  far : ∀ k, va.ownBlock = some k ∨ vb.ownBlock = some k → vu.ownBlock ≠ some k ∧ ∀ (j : Nat) (x : SgH), hs[j]? = some x → x.mv.ownBlock ≠ some k
/-- The value v is the log L, in memory of its own, in the blocks B .. T-1. -/
def LgO (B T : Nat) (w : World) (v : Value) (L : Lg) : Prop :=
  ∃ va vb vu hs, v = .agg #[va, vb, .int .i64 L.segs, vu, .int .i64 L.ng, .int .i64 L.ns, .int .i64 L.st, .int .i64 L.nv] ∧ LgP B T w va vb vu L hs
theorem LgP.kept {B T B' T' : Nat} {w w' : World} {va vb vu : Value} {L : Lg} {hs : List SgH} (h : LgP B T w va vb vu L hs) (hk : Kept B' T' w w') (hd : T ≤ B' ∨ T' ≤ B) : LgP B T w' va vb vu L hs :=
  ⟨h.sec.kept hk hd, h.cac.kept hk hd, h.two, h.use.kept hk hd, h.far⟩
theorem LgP.later {B T : Nat} {w w' : World} {va vb vu : Value} {L : Lg} {hs : List SgH} (h : LgP B T w va vb vu L hs) (hb : Below w.heap.size w w') : LgP B T w' va vb vu L hs :=
  h.kept (Kept.of_below hb T T) (.inl (Nat.le_refl _))
theorem LgO.kept {B T B' T' : Nat} {w w' : World} {v : Value} {L : Lg} (h : LgO B T w v L) (hk : Kept B' T' w w') (hd : T ≤ B' ∨ T' ≤ B) : LgO B T w' v L := by
  obtain ⟨va, vb, vu, hs, e, p⟩ := h
  exact ⟨va, vb, vu, hs, e, p.kept hk hd⟩
theorem LgO.later {B T : Nat} {w w' : World} {v : Value} {L : Lg} (h : LgO B T w v L) (hb : Below w.heap.size w w') : LgO B T w' v L :=
  h.kept (Kept.of_below hb T T) (.inl (Nat.le_refl _))
theorem LgP.stay {B T : Nat} {w w' : World} {va vb vu : Value} {L : Lg} {hs : List SgH} (h : LgP B T w va vb vu L hs) (hz : w.heap.size ≤ w'.heap.size) (hk : ∀ q, B ≤ q → q < T → w'.heap[q]? = w.heap[q]?) : LgP B T w' va vb vu L hs :=
  ⟨⟨h.sec.1.stayG hz (fun q e => hk q (h.sec.1.own.lt q e).1 (h.sec.2.2 q e)), Nat.le_trans h.sec.2.1 hz, h.sec.2.2⟩, ⟨h.cac.1.stayG hz (fun q e => hk q (h.cac.1.own.lt q e).1 (h.cac.2.2 q e)), Nat.le_trans h.cac.2.1 hz, h.cac.2.2⟩, h.two,
   ⟨h.use.own.stay hz (fun q e => hk q (h.use.own.where'.1 q e).1 (h.use.row q e)) (fun j x hj q e => hk q (h.use.own.where'.2 j x hj q e).1 (h.use.its j x hj q e)), Nat.le_trans h.use.le hz, h.use.row, h.use.its⟩, h.far⟩
theorem LgP.widen {B T B' T' : Nat} {w : World} {va vb vu : Value} {L : Lg} {hs : List SgH} (h : LgP B T w va vb vu L hs) (hB : B' ≤ B) (hT : T ≤ T') (hz : T' ≤ w.heap.size) : LgP B' T' w va vb vu L hs :=
  ⟨(h.sec.deeper hB).wider hT hz, (h.cac.deeper hB).wider hT hz, h.two, h.use.widen hB hT hz, h.far⟩
/-- A disk and segments behind it make a log. -/
theorem LgP.mk2 {B1 T1 B2 T : Nat} {w : World} {va vb vu : Value} {L : Lg} {hs : List SgH} (hd : DOwn B1 T1 w (.agg #[va, vb]) L.d) (hg : GOwn B2 T w vu L.used hs) (h1 : T1 ≤ B2) (h2 : B1 ≤ B2) (h3 : T1 ≤ T) : LgP B1 T w va vb vu L hs := by
  obtain ⟨ua, ub, e, l1, l2, l3⟩ := hd
  simp only [Value.agg.injEq, Array.mk.injEq, List.cons.injEq, and_true] at e
  obtain ⟨rfl, rfl⟩ := e
  refine ⟨l1.wider h3 hg.le, l2.wider h3 hg.le, l3, hg.widen h2 (Nat.le_refl _) hg.le, fun k hk => ?_⟩
  have hlt : k < T1 := by rcases hk with e | e; exact l1.2.2 k e; exact l2.2.2 k e
  refine ⟨fun e => ?_, fun j x hj e => ?_⟩
  · have := (hg.own.where'.1 k e).1; omega
  · have := (hg.own.where'.2 j x hj k e).1; omega
theorem LgP.down {B T : Nat} {w : World} {va vb vu : Value} {L : Lg} {hs : List SgH} (h : LgP B T w va vb vu L hs) : DOwn B T w (.agg #[va, vb]) L.d := ⟨va, vb, rfl, h.sec, h.cac, h.two⟩
theorem LgP.form {B T : Nat} {w : World} {va vb vu : Value} {L : Lg} {hs : List SgH} (h : LgP B T w va vb vu L hs) : ∃ (a b u : Option Addr) (c e f : Nat), va = .slice a L.d.sec.length c ∧ vb = .slice b L.d.cache.length e ∧ vu = .slice u L.used.length f := by
  obtain ⟨a, c, rfl⟩ := h.sec.1.form
  obtain ⟨b, e, rfl⟩ := h.cac.1.form
  obtain ⟨u, f, rfl⟩ := h.use.own.row.form
  exact ⟨a, b, u, c, e, f, rfl, rfl, by rw [h.use.own.len]⟩
theorem LgO.form {B T : Nat} {w : World} {v : Value} {L : Lg} (h : LgO B T w v L) : ∃ (a b u : Option Addr) (c e f : Nat), v = .agg #[.slice a L.d.sec.length c, .slice b L.d.cache.length e, .int .i64 L.segs, .slice u L.used.length f, .int .i64 L.ng, .int .i64 L.ns, .int .i64 L.st, .int .i64 L.nv] := by
  obtain ⟨va, vb, vu, hs, rfl, p⟩ := h
  obtain ⟨a, b, u, c, e, f, rfl, rfl, rfl⟩ := p.form
  exact ⟨a, b, u, c, e, f, rfl⟩

/-- A log that can be read. -/
def LRd (w : World) (v : Value) (L : Lg) : Prop :=
  ∃ va vb vu, v = .agg #[va, vb, .int .i64 L.segs, vu, .int .i64 L.ng, .int .i64 L.ns, .int .i64 L.st, .int .i64 L.nv] ∧ DRd w (.agg #[va, vb]) L.d ∧ GRd w vu L.used
theorem LgO.rd {B T : Nat} {w : World} {v : Value} {L : Lg} (h : LgO B T w v L) : LRd w v L := by
  obtain ⟨va, vb, vu, hs, rfl, p⟩ := h
  exact ⟨va, vb, vu, rfl, p.down.rd, p.use.own.rd⟩
theorem LRd.later {w w' : World} {v : Value} {L : Lg} (h : LRd w v L) (hb : Below w.heap.size w w') : LRd w' v L := by
  obtain ⟨va, vb, vu, e, h1, h2⟩ := h
  exact ⟨va, vb, vu, e, h1.later hb, h2.later hb⟩

/-- A log that comes in. -/
def LIn (w : World) (v : Value) (L : Lg) : Prop :=
  ∃ va vb vu, v = .agg #[va, vb, .int .i64 L.segs, vu, .int .i64 L.ng, .int .i64 L.ns, .int .i64 L.st, .int .i64 L.nv] ∧ DIn w (.agg #[va, vb]) L.d ∧ LGRd w vu L.used ∧ L.used.length ≤ 9223372036854775807 ∧ ∀ b ∈ L.used, sgShort b
theorem LIn.later {w w' : World} {v : Value} {L : Lg} (h : LIn w v L) (hb : Below w.heap.size w w') : LIn w' v L := by
  obtain ⟨va, vb, vu, e, h1, h2, h3⟩ := h
  exact ⟨va, vb, vu, e, h1.later hb, h2.later hb, h3⟩

/-- What szLog leaves over. -/
def Lg.lean (L : Lg) (left : Int) : Prop := L.d.lean left ∧ ((L.used.length + gIts L.used : Nat) : Int) ≤ left ∧ ∀ b ∈ L.used, sgLean left b

theorem kF_gIts : ∀ (k : Nat) (bs : List Sg), kF k bs = k + 3 * bs.length + 9 * gIts bs
  | k, [] => by simp [kF, gIts]
  | k, b :: bs => by
    have h1 := kF_gIts (kG k b) bs
    unfold kF gIts
    rw [h1, List.length_cons]
    unfold kG
    omega
/-- A log all marked, and the number behind the marks. -/
def marksLg (k : Nat) (L : Lg) : Lg := ⟨marksD k L.d, L.segs, marksG (k + L.d.count) L.used, L.ng, L.ns, L.st, L.nv⟩
def Lg.kL (k : Nat) (L : Lg) : Nat := kF (k + L.d.count) L.used
theorem Lg.lean_small (L : Lg) (h : L.lean 1048576) : L.d.small ∧ L.used.length ≤ 1048576 ∧ (∀ b ∈ L.used, b.items.length ≤ 1099511627776) ∧ L.kL 1 ≤ 40000000 ∧ L.d.count ≤ 4000000 := by
  obtain ⟨⟨h1, h2, _, _⟩, h3, _⟩ := h
  have h4 : L.d.count ≤ 4000000 := by unfold Dk.count; omega
  refine ⟨⟨by omega, by omega⟩, by omega, fun b hb => by have := gIts_mem hb; omega, ?_, h4⟩
  unfold Lg.kL
  rw [kF_gIts]
  omega
theorem Lg.lean_texts (L : Lg) (h : L.lean 1048576) : ∀ b ∈ L.used, ∀ x ∈ b.items, x.2.user.size ≤ 1048576 ∧ x.2.name.size ≤ 1048576 ∧ x.2.text.size ≤ 1048576 := fun b hb x hx => by
  have := h.2.2 b hb x hx
  omega

end Go.Proofs.Ytmahicpheimnjaa

/- Lists that came in: a row read cell by cell is a list. -/
namespace Go.Proofs.Ytmahicpheimnjaa
open Go.RowKit Go.ChangeShapes Go.WideShapes Go.ChangeAt Go.Deep Go.Joins

section
variable {W : World}

theorem rows_of_cells {α : Type} [Inhabited α] (E : Enc α) {a : Addr} {len cap : Nat} (hl : len ≤ cap) (hp : ∀ i, i < len → ∃ x : α, ∀ k u, (E.f x)[k]? = some u → W.cell? (a.add (i * E.sz + k)) = some u) (Pr : α → Prop)
    (hpr : ∀ i, i < len → ∀ x : α, (∀ k u, (E.f x)[k]? = some u → W.cell? (a.add (i * E.sz + k)) = some u) → Pr x) :
    ∃ l : List α, l.length = len ∧ Rows' E W (.slice (some a) len cap) l ∧ ∀ x ∈ l, Pr x := by
  obtain ⟨f, hf⟩ := choose_lt hp
  refine ⟨(List.range len).map f, by simp, ?_, ?_⟩
  · by_cases h0 : len = 0
    · subst h0
      exact .inl ⟨rfl, _, _, rfl⟩
    · have hsp : a.spot = none := by
        have hne : (E.f (f 0))[0]? = some ((E.f (f 0))[0]'(by rw [E.len]; exact E.pos)) := List.getElem?_eq_getElem _
        have := hf 0 (by omega) 0 _ hne
        have h2 := World.cell?_spot this
        simpa [Addr.add] using h2
      obtain ⟨b, off, spot⟩ := a
      simp only at hsp
      subst hsp
      refine .inr ⟨b, off, cap, by simp, by simpa using hl, ?_, ?_⟩
      · have hne : (E.f (f 0))[0]? = some ((E.f (f 0))[0]'(by rw [E.len]; exact E.pos)) := List.getElem?_eq_getElem _
        have := hf 0 (by omega) 0 _ hne
        rw [Addr.add_lit] at this
        exact World.block_lt_of_cell? W _ this
      · intro j x hj k u hu
        have hjl : j < len := by have := (List.getElem?_eq_some_iff.1 hj).1; simpa using this
        have hx : f j = x := by simpa [hjl] using hj
        subst hx
        have := hf j hjl k u hu
        rw [Addr.add_lit] at this
        rw [Nat.add_assoc]
        exact this
  · intro x hx
    simp only [List.mem_map, List.mem_range] at hx
    obtain ⟨i, hi, rfl⟩ := hx
    exact hpr i hi _ (hf i hi)
end

end Go.Proofs.Ytmahicpheimnjaa

/- What a disk is that comes in as an argument: its rows can be read. -/
namespace Go.Proofs.Ytmahicpheimnjaa
open Go.RowKit Go.ChangeShapes Go.WideShapes Go.ChangeAt Go.Deep Go.Joins

section
variable {H : Type} {enc : TypeId × Value → H} {W : World}

set_option maxRecDepth 100000 in
theorem strs_of_trod {fuel : Nat} {v : Value} {x : DataW H × List MemPlace} (h : DataW.trod enc Try.prog W 0 (fun _ => true) true fuel 44 [v] = some x) :
    ∃ l : List ByteArray, Rows' strE W v l ∧ l.length ≤ maxLen ∧ ∀ s ∈ l, s.size ≤ maxLen := by
  rcases open_slice1 Try.underlying44 (by kernel_rfl) h with ⟨hv, _⟩ | ⟨a, len, cap, m, n, V, D, Pl, hv, _, hl, hm, hmm, _, hc⟩
  · simp at hv; subst hv
    exact ⟨[], .inl ⟨rfl, _, _, rfl⟩, by decide, by simp⟩
  · simp at hv; subst hv
    have hm2 : m = cap := by simpa using hmm
    have hex : ∀ i, i < len → ∃ s : ByteArray, W.cell? (a.add i) = some (.string s) ∧ s.size ≤ maxLen := by
      intro i hi
      obtain ⟨h1, h2⟩ := hc i (by omega)
      obtain ⟨s, hs, _, hsz⟩ := DataW.trod_string Try.underlying9 h2
      simp at hs
      exact ⟨s, by rw [h1, hs], hsz⟩
    obtain ⟨l, hlen, hr, hp⟩ := rows_of_cells strE hl (fun i hi => by
      obtain ⟨s, hs, _⟩ := hex i hi
      refine ⟨s, fun k u hu => ?_⟩
      match k, hu with
      | 0, hu => simp [strE] at hu; subst hu; rw [show strE.sz = 1 from rfl, Nat.mul_one, Nat.add_zero]; exact hs
      | k + 1, hu => simp [strE] at hu) (fun s => s.size ≤ maxLen) (fun i hi s hs => by
      obtain ⟨t, ht, hts⟩ := hex i hi
      have := hs 0 (.string s) rfl
      rw [show strE.sz = 1 from rfl, Nat.mul_one, Nat.add_zero, ht] at this
      simp at this
      subst this
      exact hts)
    exact ⟨l, hr, by omega, hp⟩

instance : Inhabited Wr := ⟨⟨0, ⟨#[]⟩⟩⟩

set_option maxRecDepth 100000 in
theorem writes_of_trod {fuel : Nat} {v : Value} {x : DataW H × List MemPlace} (h : DataW.trod enc Try.prog W 0 (fun _ => true) true fuel 47 [v] = some x) :
    ∃ l : List Wr, Rows' lwrE W v l ∧ l.length ≤ maxLen ∧ ∀ x ∈ l, x.text.size ≤ maxLen := by
  rcases open_slice_pairs Try.underlying47 Try.underlying168 (by kernel_rfl) rfl rfl (by kernel_rfl) (by kernel_rfl) h with ⟨hv, _⟩ | ⟨a, len, cap, m, n, V0, V1, D0, D1, P0, P1, hv, _, hl, hm, hmm, _, hc⟩
  · simp at hv; subst hv
    exact ⟨[], .inl ⟨rfl, _, _, rfl⟩, by decide, by simp⟩
  · simp at hv; subst hv
    have hm2 : m = cap := by simpa using hmm
    have hex : ∀ i, i < len → ∃ x : Wr, W.cell? (a.add (i * 2)) = some (.int .i64 x.at_) ∧ W.cell? (a.add (i * 2 + 1)) = some (.string x.text) ∧ x.text.size ≤ maxLen := by
      intro i hi
      obtain ⟨h1, h2, h3, h4⟩ := hc i (by omega)
      obtain ⟨s, hs, _, hsz⟩ := DataW.trod_string Try.underlying9 h4
      obtain ⟨k, hk, _, _⟩ := DataW.trod_int Try.underlying3 h3
      simp at hs hk
      exact ⟨⟨k, s⟩, by rw [h1, hk], by rw [h2, hs], hsz⟩
    obtain ⟨l, hlen, hr, hp⟩ := rows_of_cells lwrE hl (fun i hi => by
      obtain ⟨x, h0, h1, _⟩ := hex i hi
      refine ⟨x, fun k u hu => ?_⟩
      match k, hu with
      | 0, hu => simp [lwrE] at hu; subst hu; exact h0
      | 1, hu => simp [lwrE] at hu; subst hu; exact h1
      | k + 2, hu => simp [lwrE] at hu) (fun x => x.text.size ≤ maxLen) (fun i hi x hx => by
      obtain ⟨y, _, h1, hys⟩ := hex i hi
      have : W.cell? (a.add (i * 2 + 1)) = some (.string x.text) := hx 1 (.string x.text) rfl
      rw [h1] at this
      simp at this
      rw [← this]
      exact hys)
    exact ⟨l, hr, by omega, hp⟩

set_option maxRecDepth 100000 in
theorem open_Disk {b0 : Nat} {r : Reach} {v : Value} {d : DataW H} {p : List MemPlace} (hv : Value.okWide Try.prog W r b0 49 v) (h : DataW.Trod enc Try.prog W 0 (fun _ => true) true 49 v d p) : ∃ D : Dk, DIn W v D := by
  obtain ⟨va, vb, y0, y1, n, rfl, _, _, h0, h1⟩ := open_agg2 Try.underlying49 (by kernel_rfl) (by kernel_rfl) hv h
  obtain ⟨l, hl1, hl2, hl3⟩ := strs_of_trod h0
  obtain ⟨c, hc1, hc2, hc3⟩ := writes_of_trod h1
  have hml : maxLen ≤ 9223372036854775807 := by decide
  exact ⟨⟨l, c⟩, va, vb, rfl, hl1, hc1, Nat.le_trans hl2 hml, Nat.le_trans hc2 hml, fun s hs => Nat.le_trans (hl3 s hs) hml, fun x hx => Nat.le_trans (hc3 x hx) hml⟩
end

end Go.Proofs.Ytmahicpheimnjaa

/- Records and items that come in as arguments. -/
namespace Go.Proofs.Ytmahicpheimnjaa
open Go.RowKit Go.ChangeShapes Go.WideShapes Go.ChangeAt Go.Deep Go.Joins

theorem list8 {α : Type} {l : List α} (h : l.length = 8) : ∃ v0 v1 v2 v3 v4 v5 v6 v7, l = [v0, v1, v2, v3, v4, v5, v6, v7] := by
  match l, h with
  | [v0, v1, v2, v3, v4, v5, v6, v7], _ => exact ⟨v0, v1, v2, v3, v4, v5, v6, v7, rfl⟩
theorem list9 {α : Type} {l : List α} (h : l.length = 9) : ∃ c v0 v1 v2 v3 v4 v5 v6 v7, l = c :: [v0, v1, v2, v3, v4, v5, v6, v7] := by
  match l, h with
  | [c, v0, v1, v2, v3, v4, v5, v6, v7], _ => exact ⟨c, v0, v1, v2, v3, v4, v5, v6, v7, rfl⟩

section
variable {H : Type} {enc : TypeId × Value → H} {P : Program} {w : World} {base : Nat} {spare : Nat → Bool} {held : Bool}

/-- The eight fields of a struct, each of one cell. -/
theorem trod_eight {t : TypeId} {f0 f1 f2 f3 f4 f5 f6 f7 : Field} {fuel : Nat} {cs : List Value} {x : DataW H × List MemPlace} (hs : P.underlying t = some (.struct #[f0, f1, f2, f3, f4, f5, f6, f7])) (hone : oneCellFields P #[f0, f1, f2, f3, f4, f5, f6, f7] = true) (hC : P.cellsOf t = 8)
    (h : DataW.trod enc P w base spare held fuel t cs = some x) :
    ∃ (v0 v1 v2 v3 v4 v5 v6 v7 : Value) (n : Nat), cs = [v0, v1, v2, v3, v4, v5, v6, v7] ∧ (∃ y, DataW.trod enc P w base spare held n f0.type [v0] = some y) ∧ (∃ y, DataW.trod enc P w base spare held n f1.type [v1] = some y) ∧ (∃ y, DataW.trod enc P w base spare held n f2.type [v2] = some y) ∧ (∃ y, DataW.trod enc P w base spare held n f3.type [v3] = some y) ∧ (∃ y, DataW.trod enc P w base spare held n f4.type [v4] = some y) ∧ (∃ y, DataW.trod enc P w base spare held n f5.type [v5] = some y) ∧ (∃ y, DataW.trod enc P w base spare held n f6.type [v6] = some y) ∧ (∃ y, DataW.trod enc P w base spare held n f7.type [v7] = some y) := by
  obtain ⟨xs, n, _, _, hl, hlen, hf⟩ := DataW.trod_struct hs h
  obtain ⟨v0, v1, v2, v3, v4, v5, v6, v7, rfl⟩ := list8 (hl.trans hC)
  have g : ∀ (i : Nat) (f : Field) (v : Value), #[f0, f1, f2, f3, f4, f5, f6, f7][i]? = some f → [v0, v1, v2, v3, v4, v5, v6, v7][i]? = some v → ∃ y, DataW.trod enc P w base spare held n f.type [v] = some y := by
    intro i f v hi hv
    obtain ⟨o, k⟩ := hone_of hone i f hi
    have hx := hf i f hi
    rw [o, k] at hx
    have e : (List.drop i [v0, v1, v2, v3, v4, v5, v6, v7]).take 1 = [v] := by
      rw [List.take_one, List.head?_drop, hv]; rfl
    rw [e] at hx
    have hi' : i < xs.length := by
      rw [hlen]
      exact (Array.getElem?_eq_some_iff.1 hi).1
    exact ⟨xs[i], by first | (rw [hx]; exact List.getElem?_eq_getElem hi') | (rw [List.getElem?_eq_getElem hi'] at hx; exact hx) | simpa [hi'] using hx⟩
  exact ⟨v0, v1, v2, v3, v4, v5, v6, v7, n, rfl, g 0 f0 v0 rfl rfl, g 1 f1 v1 rfl rfl, g 2 f2 v2 rfl rfl, g 3 f3 v3 rfl rfl, g 4 f4 v4 rfl rfl, g 5 f5 v5 rfl rfl, g 6 f6 v6 rfl rfl, g 7 f7 v7 rfl rfl⟩
end

/-- A record that came in: its texts are texts. -/
def RIn (v : Value) (r : Rc) : Prop := v = r.v ∧ r.user.size ≤ 9223372036854775807 ∧ r.name.size ≤ 9223372036854775807 ∧ r.text.size ≤ 9223372036854775807
/-- An item that came in. -/
def IIn (v : Value) (seq : Int) (r : Rc) : Prop := v = itV seq r ∧ r.user.size ≤ 9223372036854775807 ∧ r.name.size ≤ 9223372036854775807 ∧ r.text.size ≤ 9223372036854775807

section
variable {H : Type} {enc : TypeId × Value → H} {W : World}

set_option maxRecDepth 100000 in
theorem rec_form {fuel : Nat} {cs : List Value} {x : DataW H × List MemPlace} (h : DataW.trod enc Try.prog W 0 (fun _ => true) true fuel 196 cs = some x) :
    ∃ r : Rc, cs = r.cs.toList ∧ r.user.size ≤ 9223372036854775807 ∧ r.name.size ≤ 9223372036854775807 ∧ r.text.size ≤ 9223372036854775807 := by
  obtain ⟨v0, v1, v2, v3, v4, v5, v6, v7, n, rfl, ⟨y0, h0⟩, ⟨y1, h1⟩, ⟨y2, h2⟩, ⟨y3, h3⟩, ⟨y4, h4⟩, ⟨y5, h5⟩, ⟨y6, h6⟩, ⟨y7, h7⟩⟩ := trod_eight Try.underlying196 (by kernel_rfl) (by kernel_rfl) h
  obtain ⟨k0, hk0, _, _⟩ := DataW.trod_int Try.underlying3 h0
  obtain ⟨k1, hk1, _, _⟩ := DataW.trod_int Try.underlying3 h1
  obtain ⟨k2, hk2, _, _⟩ := DataW.trod_int Try.underlying3 h2
  obtain ⟨k3, hk3, _, _⟩ := DataW.trod_int Try.underlying3 h3
  obtain ⟨k4, hk4, _, _⟩ := DataW.trod_int Try.underlying3 h4
  obtain ⟨s5, hk5, _, z5⟩ := DataW.trod_string Try.underlying9 h5
  obtain ⟨s6, hk6, _, z6⟩ := DataW.trod_string Try.underlying9 h6
  obtain ⟨s7, hk7, _, z7⟩ := DataW.trod_string Try.underlying9 h7
  simp at hk0 hk1 hk2 hk3 hk4 hk5 hk6 hk7
  have hml : maxLen ≤ 9223372036854775807 := by decide
  exact ⟨⟨k0, k1, k2, k3, k4, s5, s6, s7⟩, by rw [hk0, hk1, hk2, hk3, hk4, hk5, hk6, hk7]; rfl, Nat.le_trans z5 hml, Nat.le_trans z6 hml, Nat.le_trans z7 hml⟩

set_option maxRecDepth 100000 in
theorem open_Rec {b0 : Nat} {r : Reach} {v : Value} {d : DataW H} {p : List MemPlace} (hv : Value.okWide Try.prog W r b0 196 v) (h : DataW.Trod enc Try.prog W 0 (fun _ => true) true 196 v d p) : ∃ D : Rc, RIn v D := by
  obtain ⟨cs, rfl, hsz⟩ := okWide_struct Try.underlying196 hv
  obtain ⟨fuel, hf⟩ := h
  obtain ⟨D, hD, z⟩ := rec_form hf
  refine ⟨D, ?_, z⟩
  obtain ⟨l⟩ := cs
  simp [Value.cells] at hD
  rw [hD]; rfl

set_option maxRecDepth 100000 in
theorem open_Item {b0 : Nat} {r : Reach} {v : Value} {d : DataW H} {p : List MemPlace} (hv : Value.okWide Try.prog W r b0 198 v) (h : DataW.Trod enc Try.prog W 0 (fun _ => true) true 198 v d p) : ∃ (seq : Int) (D : Rc), IIn v seq D := by
  obtain ⟨cs, rfl, hsz⟩ := okWide_struct Try.underlying198 hv
  obtain ⟨fuel, hf⟩ := h
  have hC : Try.prog.cellsOf 198 = 9 := by kernel_rfl
  have hR : Try.prog.cellsOf 196 = 8 := by kernel_rfl
  have hN : Try.prog.cellsOf 3 = 1 := by kernel_rfl
  obtain ⟨l⟩ := cs
  obtain ⟨c, v0, v1, v2, v3, v4, v5, v6, v7, rfl⟩ := list9 (show l.length = 9 from hsz.trans hC)
  obtain ⟨y0, y1, n, _, _, h0, h1⟩ := trod_struct2 Try.underlying198 hf
  simp [Value.cells, hR, hN] at h0 h1
  obtain ⟨k0, hk0, _, _⟩ := DataW.trod_int Try.underlying3 h0
  obtain ⟨D, hD, z⟩ := rec_form h1
  simp at hk0
  refine ⟨k0, D, ?_, z⟩
  have e : [v0, v1, v2, v3, v4, v5, v6, v7] = D.cs.toList := hD
  show Value.agg ⟨c :: [v0, v1, v2, v3, v4, v5, v6, v7]⟩ = _
  rw [e, hk0]; rfl
end

end Go.Proofs.Ytmahicpheimnjaa

/- Lists of items that come in as an argument. -/
namespace Go.Proofs.Ytmahicpheimnjaa
open Go.RowKit Go.ChangeShapes Go.WideShapes Go.ChangeAt Go.Deep Go.Joins

/-- Items that came in: they can be read; their texts are texts. -/
def ItsIn (W : World) (v : Value) (l : List Itm) : Prop := Rows' litE W v l ∧ l.length ≤ 9223372036854775807 ∧ ∀ x ∈ l, x.2.user.size ≤ 9223372036854775807 ∧ x.2.name.size ≤ 9223372036854775807 ∧ x.2.text.size ≤ 9223372036854775807

instance : Inhabited Itm := ⟨(0, Rc.nil)⟩

section
variable {H : Type} {enc : TypeId × Value → H} {W : World}

set_option maxRecDepth 100000 in
theorem item_form {fuel : Nat} {l : List Value} {x : DataW H × List MemPlace} (hl : l.length = 9) (hf : DataW.trod enc Try.prog W 0 (fun _ => true) true fuel 198 l = some x) :
    ∃ y : Itm, l = litE.f y ∧ y.2.user.size ≤ 9223372036854775807 ∧ y.2.name.size ≤ 9223372036854775807 ∧ y.2.text.size ≤ 9223372036854775807 := by
  have hR : Try.prog.cellsOf 196 = 8 := by kernel_rfl
  have hN : Try.prog.cellsOf 3 = 1 := by kernel_rfl
  obtain ⟨c, v0, v1, v2, v3, v4, v5, v6, v7, rfl⟩ := list9 hl
  obtain ⟨y0, y1, n, _, _, h0, h1⟩ := trod_struct2 Try.underlying198 hf
  simp [hR, hN] at h0 h1
  obtain ⟨k0, hk0, _, _⟩ := DataW.trod_int Try.underlying3 h0
  obtain ⟨D, hD, z⟩ := rec_form h1
  simp at hk0
  refine ⟨(k0, D), ?_, z⟩
  rw [hD, hk0]; rfl

set_option maxRecDepth 100000 in
theorem items_of_trod {fuel : Nat} {v : Value} {x : DataW H × List MemPlace} (h : DataW.trod enc Try.prog W 0 (fun _ => true) true fuel 129 [v] = some x) : ∃ l : List Itm, ItsIn W v l := by
  have hC : Try.prog.cellsOf 198 = 9 := by kernel_rfl
  have hml : maxLen ≤ 9223372036854775807 := by decide
  rcases open_slice Try.underlying129 h with ⟨hv, _⟩ | ⟨a, len, cap, m, n, D, Pl, hv, _, hl, hm, hmm, _, hc⟩
  · simp at hv; subst hv
    exact ⟨[], .inl ⟨rfl, _, _, rfl⟩, by simp, by simp⟩
  · simp at hv; subst hv
    have hm2 : m = cap := by simpa using hmm
    have hex : ∀ i, i < len → ∃ y : Itm, (∀ k u, (litE.f y)[k]? = some u → W.cell? (a.add (i * 9 + k)) = some u) ∧ y.2.user.size ≤ 9223372036854775807 ∧ y.2.name.size ≤ 9223372036854775807 ∧ y.2.text.size ≤ 9223372036854775807 := by
      intro i hi
      obtain ⟨cs', h1, h2⟩ := hc i (by omega)
      rw [hC] at h1
      obtain ⟨_, hlen, hcell⟩ := World.cells?_some h1
      obtain ⟨y, hy, z⟩ := item_form hlen h2
      refine ⟨y, fun k u hu => ?_, z⟩
      have hk : k < 9 := by have h9 := (List.getElem?_eq_some_iff.1 hu).1; rw [litE.len y] at h9; exact h9
      have := hcell k hk
      rw [add_add] at this
      rw [this, hy]
      exact hu
    obtain ⟨l, hlen, hr, hp⟩ := rows_of_cells litE hl (fun i hi => by
      obtain ⟨y, hy, _⟩ := hex i hi
      exact ⟨y, hy⟩) (fun y => y.2.user.size ≤ 9223372036854775807 ∧ y.2.name.size ≤ 9223372036854775807 ∧ y.2.text.size ≤ 9223372036854775807) (fun i hi y hy => by
      obtain ⟨z, hz, hs⟩ := hex i hi
      have e6 := hy 6 _ rfl
      have e7 := hy 7 _ rfl
      have e8 := hy 8 _ rfl
      have g6 := hz 6 _ rfl
      have g7 := hz 7 _ rfl
      have g8 := hz 8 _ rfl
      change W.cell? (a.add (i * 9 + 6)) = _ at e6
      change W.cell? (a.add (i * 9 + 7)) = _ at e7
      change W.cell? (a.add (i * 9 + 8)) = _ at e8
      rw [g6] at e6
      rw [g7] at e7
      rw [g8] at e8
      simp at e6 e7 e8
      rw [← e6, ← e7, ← e8]
      exact hs)
    exact ⟨l, hr, by omega, hp⟩

set_option maxRecDepth 100000 in
theorem open_ItemS {b0 : Nat} {r : Reach} {v : Value} {d : DataW H} {p : List MemPlace} (hv : Value.okWide Try.prog W r b0 129 v) (h : DataW.Trod enc Try.prog W 0 (fun _ => true) true 129 v d p) : ∃ l : List Itm, ItsIn W v l := by
  obtain ⟨fuel, h⟩ := h
  obtain ⟨a0, len0, cap0, rfl⟩ := okWide_slice Try.underlying129 hv
  exact items_of_trod h
end

end Go.Proofs.Ytmahicpheimnjaa

/- Logs that come in as arguments. -/
namespace Go.Proofs.Ytmahicpheimnjaa
open Go.RowKit Go.ChangeShapes Go.WideShapes Go.ChangeAt Go.Deep Go.Joins

instance : Inhabited SgH := ⟨⟨0, 0, 0, none, 0, 0⟩⟩
theorem list4G {α : Type} {l : List α} (h : l.length = 4) : ∃ v0 v1 v2 v3, l = [v0, v1, v2, v3] := by
  match l, h with
  | [v0, v1, v2, v3], _ => exact ⟨v0, v1, v2, v3, rfl⟩
theorem list8G {α : Type} {l : List α} (h : l.length = 8) : ∃ v0 v1 v2 v3 v4 v5 v6 v7, l = [v0, v1, v2, v3, v4, v5, v6, v7] := by
  match l, h with
  | [v0, v1, v2, v3, v4, v5, v6, v7], _ => exact ⟨v0, v1, v2, v3, v4, v5, v6, v7, rfl⟩

section
variable {H : Type} {enc : TypeId × Value → H} {P : Program} {w : World} {base : Nat} {spare : Nat → Bool} {held : Bool}

/-- The fields of a struct, each of one cell. -/
theorem trod_onesG {t : TypeId} {fs : Array Field} {fuel : Nat} {cs : List Value} {x : DataW H × List MemPlace} (hs : P.underlying t = some (.struct fs)) (hone : oneCellFields P fs = true)
    (h : DataW.trod enc P w base spare held fuel t cs = some x) :
    ∃ n : Nat, cs.length = P.cellsOf t ∧ ∀ (i : Nat) (f : Field) (v : Value), fs[i]? = some f → cs[i]? = some v → ∃ y, DataW.trod enc P w base spare held n f.type [v] = some y := by
  obtain ⟨xs, n, _, _, hl, hlen, hf⟩ := DataW.trod_struct hs h
  refine ⟨n, hl, fun i f v hi hv => ?_⟩
  obtain ⟨o, k⟩ := hone_of hone i f hi
  have hx := hf i f hi
  rw [o, k] at hx
  have e : (List.drop i cs).take 1 = [v] := by
    rw [List.take_one, List.head?_drop, hv]; rfl
  rw [e] at hx
  have hi' : i < xs.length := by
    rw [hlen]
    exact (Array.getElem?_eq_some_iff.1 hi).1
  exact ⟨xs[i], by first | (rw [hx]; exact List.getElem?_eq_getElem hi') | (rw [List.getElem?_eq_getElem hi'] at hx; exact hx) | simpa [hi'] using hx⟩
end

section
variable {H : Type} {enc : TypeId × Value → H} {W : World}

/-- A segment as it came in: its items can be read. -/
def SgIn (W : World) (x : SgH) : Prop := ∃ l : List Itm, ItsIn W x.mv l

set_option maxRecDepth 100000 in
theorem seg_form {fuel : Nat} {l : List Value} {x : DataW H × List MemPlace} (hf : DataW.trod enc Try.prog W 0 (fun _ => true) true fuel 131 l = some x) :
    ∃ y : SgH, l = lsgE.f y ∧ SgIn W y := by
  have hC : Try.prog.cellsOf 131 = 4 := by kernel_rfl
  obtain ⟨n, hl, hx⟩ := trod_onesG Try.underlying131 (by kernel_rfl) hf
  obtain ⟨v0, v1, v2, v3, rfl⟩ := list4G (hl.trans hC)
  obtain ⟨y0, h0⟩ := hx 0 _ v0 rfl rfl
  obtain ⟨y1, h1⟩ := hx 1 _ v1 rfl rfl
  obtain ⟨y2, h2⟩ := hx 2 _ v2 rfl rfl
  obtain ⟨y3, h3⟩ := hx 3 _ v3 rfl rfl
  obtain ⟨k0, hk0, _, _⟩ := DataW.trod_int Try.underlying3 h0
  obtain ⟨k1, hk1, _, _⟩ := DataW.trod_int Try.underlying3 h1
  obtain ⟨k2, hk2, _, _⟩ := DataW.trod_int Try.underlying3 h2
  obtain ⟨ms, hr⟩ := items_of_trod h3
  simp at hk0 hk1 hk2
  obtain ⟨a, n, c, rfl⟩ : ∃ ad n cap, v3 = .slice ad n cap := by
    rcases hr.1.ways with ⟨_, a, c, e⟩ | ⟨_, g, off, c, e, _⟩
    · exact ⟨_, _, _, e⟩
    · exact ⟨_, _, _, e⟩
  exact ⟨⟨k0, k1, k2, a, n, c⟩, by rw [hk0, hk1, hk2]; rfl, ms, hr⟩

set_option maxRecDepth 100000 in
theorem segs_of_trod {fuel : Nat} {v : Value} {x : DataW H × List MemPlace} (h : DataW.trod enc Try.prog W 0 (fun _ => true) true fuel 50 [v] = some x) :
    ∃ l : List Sg, LGRd W v l ∧ l.length ≤ 9223372036854775807 ∧ ∀ b ∈ l, sgShort b := by
  have hC : Try.prog.cellsOf 131 = 4 := by kernel_rfl
  have hml : maxLen ≤ 9223372036854775807 := by decide
  have hrows : ∃ hs : List SgH, Rows' lsgE W v hs ∧ hs.length ≤ 9223372036854775807 ∧ ∀ y ∈ hs, SgIn W y := by
    rcases open_slice Try.underlying50 h with ⟨hv, _⟩ | ⟨a, len, cap, m, n, D, Pl, hv, _, hl, hm, hmm, _, hc⟩
    · simp at hv; subst hv
      exact ⟨[], .inl ⟨rfl, _, _, rfl⟩, by simp, by simp⟩
    · simp at hv; subst hv
      have hm2 : m = cap := by simpa using hmm
      have hex : ∀ i, i < len → ∃ y : SgH, (∀ k u, (lsgE.f y)[k]? = some u → W.cell? (a.add (i * 4 + k)) = some u) ∧ SgIn W y := by
        intro i hi
        obtain ⟨cs', h1, h2⟩ := hc i (by omega)
        rw [hC] at h1
        obtain ⟨_, hlen, hcell⟩ := World.cells?_some h1
        obtain ⟨y, hy, z⟩ := seg_form h2
        refine ⟨y, fun k u hu => ?_, z⟩
        have hk : k < 4 := by have h9 := (List.getElem?_eq_some_iff.1 hu).1; rw [lsgE.len y] at h9; exact h9
        have := hcell k hk
        rw [add_add] at this
        rw [this, hy]
        exact hu
      obtain ⟨l, hlen, hr, hp⟩ := rows_of_cells lsgE hl (fun i hi => by
        obtain ⟨y, hy, _⟩ := hex i hi
        exact ⟨y, hy⟩) (SgIn W) (fun i hi y hy => by
        obtain ⟨z, hz, hs⟩ := hex i hi
        have e3 := hy 3 _ rfl
        have g3 := hz 3 _ rfl
        change W.cell? (a.add (i * 4 + 3)) = _ at e3
        rw [g3] at e3
        have q3 : z.mv = y.mv := Option.some.inj e3
        unfold SgIn at hs ⊢
        rw [← q3]
        exact hs)
      exact ⟨l, hr, by omega, hp⟩
  obtain ⟨hs, hr, hlen, hp⟩ := hrows
  have hch : ∀ y : SgH, ∃ b : Sg, SgIn W y → ((y.no = b.no ∧ y.gen = b.gen ∧ y.ende = b.ende) ∧ Rows' litE W y.mv b.items) ∧ sgShort b := by
    intro y
    by_cases c : SgIn W y
    · obtain ⟨ms, hr, hl, hsh⟩ := c
      exact ⟨⟨y.no, y.gen, y.ende, ms⟩, fun _ => ⟨⟨⟨rfl, rfl, rfl⟩, hr⟩, hl, hsh⟩⟩
    · exact ⟨⟨0, 0, 0, []⟩, fun e => absurd e c⟩
  obtain ⟨f, hf⟩ := Classical.axiomOfChoice hch
  refine ⟨hs.map f, ⟨hs, hr, by simp, fun j y b h1 h2 => ?_⟩, by simpa using hlen, fun b hb => ?_⟩
  · rw [List.getElem?_map, h1] at h2
    cases h2
    exact (hf y (hp y (List.mem_of_getElem? h1))).1
  · obtain ⟨y, hy, rfl⟩ := List.mem_map.1 hb
    exact (hf y (hp y hy)).2

set_option maxRecDepth 100000 in
theorem log_of_trod {fuel : Nat} {l : List Value} {x : DataW H × List MemPlace} (hf : DataW.trod enc Try.prog W 0 (fun _ => true) true fuel 52 l = some x) : ∃ L : Lg, LIn W (.agg ⟨l⟩) L := by
  have hC : Try.prog.cellsOf 52 = 8 := by kernel_rfl
  have hN : Try.prog.cellsOf 3 = 1 := by kernel_rfl
  have hD : Try.prog.cellsOf 49 = 2 := by kernel_rfl
  have hG : Try.prog.cellsOf 50 = 1 := by kernel_rfl
  have hS1 : Try.prog.cellsOf 44 = 1 := by kernel_rfl
  have hW1 : Try.prog.cellsOf 47 = 1 := by kernel_rfl
  obtain ⟨xs, n, _, _, hl, hlen, hx⟩ := DataW.trod_struct Try.underlying52 hf
  obtain ⟨v0, v1, v2, v3, v4, v5, v6, v7, rfl⟩ := list8G (hl.trans hC)
  have hlen' : xs.length = 7 := hlen
  have ex : ∀ i, i < 7 → ∃ y, xs[i]? = some y := fun i hi => ⟨_, List.getElem?_eq_getElem (by omega)⟩
  obtain ⟨y0, e0⟩ := ex 0 (by omega)
  obtain ⟨y1, e1⟩ := ex 1 (by omega)
  obtain ⟨y2, e2⟩ := ex 2 (by omega)
  obtain ⟨y3, e3⟩ := ex 3 (by omega)
  obtain ⟨y4, e4⟩ := ex 4 (by omega)
  obtain ⟨y5, e5⟩ := ex 5 (by omega)
  obtain ⟨y6, e6⟩ := ex 6 (by omega)
  have h0 := (hx 0 _ rfl).trans e0
  have h1 := (hx 1 _ rfl).trans e1
  have h2 := (hx 2 _ rfl).trans e2
  have h3 := (hx 3 _ rfl).trans e3
  have h4 := (hx 4 _ rfl).trans e4
  have h5 := (hx 5 _ rfl).trans e5
  have h6 := (hx 6 _ rfl).trans e6
  simp [hD, hN, hG] at h0 h1 h2 h3 h4 h5 h6
  obtain ⟨z0, z1, m, _, _, g0, g1⟩ := trod_struct2 Try.underlying49 h0
  simp [hS1, hW1] at g0 g1
  obtain ⟨ls, hs1, hs2, hs3⟩ := strs_of_trod g0
  obtain ⟨lc, hc1, hc2, hc3⟩ := writes_of_trod g1
  obtain ⟨k1, hk1, _, _⟩ := DataW.trod_int Try.underlying3 h1
  obtain ⟨us, hu1, hu2, hu3⟩ := segs_of_trod h2
  obtain ⟨k3, hk3, _, _⟩ := DataW.trod_int Try.underlying3 h3
  obtain ⟨k4, hk4, _, _⟩ := DataW.trod_int Try.underlying3 h4
  obtain ⟨k5, hk5, _, _⟩ := DataW.trod_int Try.underlying3 h5
  obtain ⟨k6, hk6, _, _⟩ := DataW.trod_int Try.underlying3 h6
  simp at hk1 hk3 hk4 hk5 hk6
  have hml : maxLen ≤ 9223372036854775807 := by decide
  refine ⟨⟨⟨ls, lc⟩, k1, us, k3, k4, k5, k6⟩, v0, v1, v3, ?_, ⟨v0, v1, rfl, hs1, hc1, Nat.le_trans hs2 hml, Nat.le_trans hc2 hml, fun s hs => Nat.le_trans (hs3 s hs) hml, fun x hx => Nat.le_trans (hc3 x hx) hml⟩, hu1, hu2, hu3⟩
  rw [hk1, hk3, hk4, hk5, hk6]

set_option maxRecDepth 100000 in
theorem open_Log {b0 : Nat} {r : Reach} {v : Value} {d : DataW H} {p : List MemPlace} (hv : Value.okWide Try.prog W r b0 52 v) (h : DataW.Trod enc Try.prog W 0 (fun _ => true) true 52 v d p) : ∃ L : Lg, LIn W v L := by
  obtain ⟨cs, rfl, hsz⟩ := okWide_struct Try.underlying52 hv
  obtain ⟨fuel, hf⟩ := h
  obtain ⟨l⟩ := cs
  exact log_of_trod hf
end

end Go.Proofs.Ytmahicpheimnjaa
