/- Texts of our own, joined. -/
import Derived.Test.YtjfilicddnhniaaJj
import Derived.Test.YtjfilicddnhniaaJf
import Derived.Test.YtjfilicddnhniaaJd
import Derived.Deep.Slices
import Derived.Lib.SmallJoins
import Derived.ProofKit
/- Copies of states that come in; states that come in opened. -/
namespace Go.Proofs.Ytjfilicddnhniaa
open Go.RowKit

def Bx.z : Bx := ⟨0, ⟨#[]⟩, ⟨#[]⟩, 0, []⟩

/-- Five cells of a row stored. -/
def put5 (w : World) (g i : Nat) (y : BxH) : World := ((((w.setCell ⟨g, i * 5, none⟩ (.int .i64 y.valid)).setCell ⟨g, i * 5 + 1, none⟩ (.string y.user)).setCell ⟨g, i * 5 + 2, none⟩ (.string y.name)).setCell ⟨g, i * 5 + 3, none⟩ (.int .i64 y.next)).setCell ⟨g, i * 5 + 4, none⟩ (.slice y.a y.n y.c)
theorem put5_grown (w : World) (g i : Nat) (y : BxH) : w.grownBy (put5 w g i y) (some g) :=
  ((((stored_grown w g (i * 5) _).trans (stored_grown _ g (i * 5 + 1) _)).trans (stored_grown _ g (i * 5 + 2) _)).trans (stored_grown _ g (i * 5 + 3) _)).trans (stored_grown _ g (i * 5 + 4) _)
theorem RBuf.put5 {B : Nat} {w0 w : World} {g cap : Nat} {l : List BxH} (h : RBuf hdE B w0 w (.slice (some ⟨g, 0, none⟩) l.length cap) l) (i : Nat) (x : BxH) (hi : l[i]? = some x) (y : BxH) :
    RBuf hdE B w0 (Go.Proofs.Ytjfilicddnhniaa.put5 w g i y) (.slice (some ⟨g, 0, none⟩) l.length cap) (l.set i y) := by
  have hlt : i < l.length := (List.getElem?_eq_some_iff.1 hi).1
  have hl1 : ∀ z : BxH, (l.set i z).length = l.length := fun z => by simp
  have ha1 : ∀ z : BxH, (l.set i z)[i]? = some z := fun z => List.getElem?_set_self hlt
  have s0 : RBuf hdE B w0 (w.setCell ⟨g, i * 5, none⟩ (.int .i64 y.valid)) (.slice (some ⟨g, 0, none⟩) l.length cap) (l.set i ⟨y.valid, x.user, x.name, x.next, x.a, x.n, x.c⟩) := h.stored i _ ⟨y.valid, x.user, x.name, x.next, x.a, x.n, x.c⟩ hi 0 (by decide) (.int .i64 y.valid) rfl
  rw [← hl1 ⟨y.valid, x.user, x.name, x.next, x.a, x.n, x.c⟩] at s0
  have s1 := s0.stored i _ ⟨y.valid, y.user, x.name, x.next, x.a, x.n, x.c⟩ (ha1 _) 1 (by decide) (.string y.user) rfl
  rw [List.set_set, hl1] at s1
  rw [← hl1 ⟨y.valid, y.user, x.name, x.next, x.a, x.n, x.c⟩] at s1
  have s2 := s1.stored i _ ⟨y.valid, y.user, y.name, x.next, x.a, x.n, x.c⟩ (ha1 _) 2 (by decide) (.string y.name) rfl
  rw [List.set_set, hl1] at s2
  rw [← hl1 ⟨y.valid, y.user, y.name, x.next, x.a, x.n, x.c⟩] at s2
  have s3 := s2.stored i _ ⟨y.valid, y.user, y.name, y.next, x.a, x.n, x.c⟩ (ha1 _) 3 (by decide) (.int .i64 y.next) rfl
  rw [List.set_set, hl1] at s3
  rw [← hl1 ⟨y.valid, y.user, y.name, y.next, x.a, x.n, x.c⟩] at s3
  have s4 := s3.stored i _ ⟨y.valid, y.user, y.name, y.next, y.a, y.n, y.c⟩ (ha1 _) 4 (by decide) (.slice y.a y.n y.c) rfl
  rw [List.set_set, hl1] at s4
  exact s4

/-- A whole box is put at its place. -/
theorem StO.put {B : Nat} {w : World} {g cap n : Nat} {bs : List Bx} {hs : List BxH} (h : StO B w (.slice (some ⟨g, 0, none⟩) n cap) bs hs) (hn : n = hs.length) {i : Nat} {x0 : BxH} (hi : hs[i]? = some x0) (x : BxH) (b : Bx)
    (hx : x.valid = b.valid ∧ x.user = b.user ∧ x.name = b.name ∧ x.next = b.next) (hm : RBuf mlE B w w x.mv b.mails) (hf : ∀ k, x.mv.ownBlock = some k → k ≠ g)
    (ha : ∀ (j : Nat) (y : BxH), hs[j]? = some y → ∀ k, x.mv.ownBlock = some k → y.mv.ownBlock ≠ some k) :
    StO B (Go.Proofs.Ytjfilicddnhniaa.put5 w g i x) (.slice (some ⟨g, 0, none⟩) n cap) (bs.set i b) (hs.set i x) := by
  subst hn
  have hg := put5_grown w g i x
  have kept : ∀ (m : Value) (l : List Ml), RBuf mlE B w w m l → (∀ k, m.ownBlock = some k → k ≠ g) → RBuf mlE B (Go.Proofs.Ytjfilicddnhniaa.put5 w g i x) (Go.Proofs.Ytjfilicddnhniaa.put5 w g i x) m l := fun m l hm hf => by
    refine hm.shift hg ?_
    cases hmb : m.ownBlock with
    | none => exact .inl rfl
    | some k => exact .inr (fun e => hf k hmb (Option.some.inj e))
  have far0 : ∀ {j : Nat} {y : BxH}, hs[j]? = some y → ∀ k, y.mv.ownBlock = some k → k ≠ g := fun {j y} hj k hk e => h.far j y hj k hk (by rw [e]; rfl)
  refine ⟨(h.row.put5 i x0 hi x).here, by simp [h.len], fun j y d h1 h2 => ?_, fun j y h1 k hk => ?_, fun j k y z h1 h2 hjk q hq => ?_⟩
  · rcases set_ways h1 with ⟨rfl, rfl⟩ | ⟨hne, h1⟩
    · rcases set_ways h2 with ⟨_, rfl⟩ | ⟨hne, _⟩
      · exact ⟨hx, kept _ _ hm hf⟩
      · exact absurd rfl hne
    · rcases set_ways h2 with ⟨e, _⟩ | ⟨_, h2⟩
      · exact absurd e hne
      · exact ⟨(h.at' j y d h1 h2).1, kept _ _ (h.at' j y d h1 h2).2 (far0 h1)⟩
  · rcases set_ways h1 with ⟨rfl, rfl⟩ | ⟨hne, h1⟩
    · intro e; exact hf k hk (Option.some.inj e).symm
    · exact h.far j y h1 k hk
  · rcases set_ways h1 with ⟨ej, ey⟩ | ⟨_, g1⟩
    · rcases set_ways h2 with ⟨ek, _⟩ | ⟨_, g2⟩
      · exact absurd (ej.trans ek.symm) hjk
      · rw [ey] at hq
        exact ha k z g2 q hq
    · rcases set_ways h2 with ⟨_, ez⟩ | ⟨_, g2⟩
      · rw [ez]; intro e; exact ha j y g1 q e hq
      · exact h.apart j k y z g1 g2 hjk q hq

set_option maxRecDepth 100000 in
set_option maxHeartbeats 4000000 in
theorem toBoxS_any (l : List Bx) (v : Value) (w : World) (h : LBRd w v l) (hl : l.length ≤ 1048576) (hm : ∀ b ∈ l, b.mails.length ≤ 1048576) :
    Calls Try.prog 63 #[v] w fun e w' => ∃ v' hs, e = .returned v' ∧ StO w.heap.size w' v' l hs ∧ Below w.heap.size w w' := by
  obtain ⟨a, cap, rfl, hrow⟩ := h.boxes
  have HR := Lib.hid hrow
  have HM := Lib.hid hm
  clear h hrow hm
  go_enter Try.func63, Try.ntmps63
  go_wp2_with (at_make; refine wpList_make_rows rfl _ _ hdE rfl .i64 .i64 _ _ l.length rfl rfl rfl rfl (by show 73 * l.length ≤ _; omega) ?_; intro w1 hr1 hs1)
  have S0 : StO w.heap.size w1 (.slice (some ⟨w.heap.size, 0, none⟩) l.length l.length) (copyTo Bx.z l 0) (List.replicate l.length hdE.z0) := by
    rw [copyTo_zero]
    refine ⟨hr1.here, by simp, fun j x b h1 h2 => ?_, fun j x h1 k hk => ?_, fun i j x y h1 h2 _ k hk => ?_⟩
    · rw [List.getElem?_replicate] at h1 h2
      split at h1
      · rename_i c
        rw [if_pos c] at h2
        cases h1
        cases h2
        exact ⟨⟨rfl, rfl, rfl, rfl⟩, ⟨World.ownsRow_nil _ _ _ _, Below.refl _ _, hr1.le⟩⟩
      · cases h1
    · rw [List.getElem?_replicate] at h1
      split at h1
      · cases h1; cases hk
      · cases h1
    · rw [List.getElem?_replicate] at h1
      split at h1
      · cases h1; cases hk
      · cases h1
  have B0 : Below w.heap.size w w1 := hr1.bel
  go_loopw [4] (fun iv wr => ∃ (i : Nat) (hs : List BxH), i ≤ l.length ∧ iv = .int .i64 (i : Int) ∧ StO w.heap.size wr (.slice (some ⟨w.heap.size, 0, none⟩) l.length l.length) (copyTo Bx.z l i) hs ∧ Below w.heap.size w wr) (fun iv _ => l.length - (intOf iv).toNat)
  case atStart => exact ⟨0, _, by omega, rfl, S0, B0⟩
  case round =>
    clear S0 B0 hr1 hs1
    obtain ⟨i, hs, hi, rfl, S, hb⟩ := hrel
    by_cases hlt : i < l.length
    · have hgx : l[i]? = some l[i] := List.getElem?_eq_getElem hlt
      obtain ⟨ga, oa, am, nm, cm, rfl, a0, a1, a2, a3, a4, rm⟩ := HR.out _ hb i _ hgx
      have hi0 : (0 : Int) ≤ (i : Int) := by omega
      have hi1 : (i : Int) < (l.length : Int) := by omega
      have hml := copyTo_length (z := Bx.z) hi
      have hms := copyTo_set (z := Bx.z) hlt
      have hat := copyTo_at (z := Bx.z) hlt
      have hhl : l.length = hs.length := by rw [S.len, hml]
      obtain ⟨x0, hx0⟩ : ∃ x0, hs[i]? = some x0 := ⟨_, List.getElem?_eq_getElem (by omega)⟩
      have HF : Hid (∀ w1, Below wr.heap.size wr w1 → ∃ (v0 v3 : Int) (v1 v2 : ByteArray) (pa : Option Addr) (pn pc : Nat), w1.cell? ⟨w.heap.size, i * 5, none⟩ = some (.int .i64 v0) ∧ w1.frozen? ⟨w.heap.size, i * 5, none⟩ = false ∧ w1.cell? ⟨w.heap.size, i * 5 + 1, none⟩ = some (.string v1) ∧ w1.frozen? ⟨w.heap.size, i * 5 + 1, none⟩ = false ∧ w1.cell? ⟨w.heap.size, i * 5 + 2, none⟩ = some (.string v2) ∧ w1.frozen? ⟨w.heap.size, i * 5 + 2, none⟩ = false ∧ w1.cell? ⟨w.heap.size, i * 5 + 3, none⟩ = some (.int .i64 v3) ∧ w1.frozen? ⟨w.heap.size, i * 5 + 3, none⟩ = false ∧ w1.cell? ⟨w.heap.size, i * 5 + 4, none⟩ = some (.slice pa pn pc) ∧ w1.frozen? ⟨w.heap.size, i * 5 + 4, none⟩ = false) := by
        intro w1 hb1
        have h1 := S.later hb1
        have c0 := h1.cellAt hx0 hhl 0 _ rfl
        have c1 := h1.cellAt hx0 hhl 1 _ rfl
        have c2 := h1.cellAt hx0 hhl 2 _ rfl
        have c3 := h1.cellAt hx0 hhl 3 _ rfl
        have c4 := h1.cellAt hx0 hhl 4 _ rfl
        exact ⟨_, _, _, _, _, _, _, c0.1, c0.2, c1.1, c1.2, c2.1, c2.2, c3.1, c3.2, c4.1, c4.2⟩
      have hmx := HM.out l[i] (List.getElem_mem hlt)
      generalize hx : l[i] = x at *
      have HT := Lib.hid (toBox_any x am nm cm wr (rm.later hb) hmx)
      have HX0 := Lib.hid hx0
      have HHL := Lib.hid hhl
      clear hgx rm hx0 hhl hx hmx
      go_wp2_with (go_at_call 88; refine HT.out.mono ?_; rintro e w1 ⟨pp, pk, pq, rfl, RM, hb1⟩; obtain ⟨v0, v3, v1, v2, pa, pn, pc, d0, f0, d1, f1, d2, f2, d3, f3, d4, f4⟩ := HF.out w1 hb1)
      have hp := (S.later hb1).put HHL.out HX0.out ⟨x.valid, x.user, x.name, x.next, pp, pk, pq⟩ x ⟨rfl, rfl, rfl, rfl⟩ (RM.lower hb.size) (fun k hk e => by
        have h1 := (RM.own.lt k hk).1
        have h2 := (S.where'.1 w.heap.size rfl).2
        omega) (fun j y hj k hk e => by
        have h1 := (RM.own.lt k hk).1
        have h2 := (S.where'.2 j y hj k e).2
        omega)
      rw [hms] at hp
      have hbz : Below w.heap.size w (put5 w1 w.heap.size i ⟨x.valid, x.user, x.name, x.next, pp, pk, pq⟩) := (hb.trans (hb1.mono hb.size)).grown (put5_grown _ _ _ _) (Nat.le_trans hb.size hb1.size) (fun k hk => by have := Option.some.inj hk; omega)
      unfold put5 at hp hbz
      go_roundw
      case rel => exact ⟨i + 1, _, by omega, by go_num, hp, hbz⟩
      case measure => simp [intOf]; omega
    · go_wp2
      go_ret
      rw [copyTo_all (by omega)] at S
      exact ⟨_, _, rfl, S, hb⟩

set_option maxRecDepth 100000 in
set_option maxHeartbeats 4000000 in
theorem toState_any (l : List Bx) (v : Value) (w : World) (h : LBRd w v l) (hl : l.length ≤ 1048576) (hm : ∀ b ∈ l, b.mails.length ≤ 1048576) :
    Calls Try.prog 28 #[.agg #[v]] w fun e w' => ∃ v' hs, e = .returned (.agg #[v']) ∧ StO w.heap.size w' v' l hs ∧ Below w.heap.size w w' := by
  obtain ⟨ad, cap, rfl, _⟩ := h.boxes
  have bA := belNew w (.cells #[.slice ad l.length cap] 55)
  obtain ⟨wA, hwA⟩ : ∃ wA, wA = w.alloc (.cells #[.slice ad l.length cap] 55) := ⟨_, rfl⟩
  have eA : wA.heap.size = w.heap.size + 1 := by rw [hwA]; simp
  rw [← hwA] at bA
  have hB := Box.new wA #[.slice none 0 0] 28
  have bB := bA.trans ((belNew wA (.cells #[.slice none 0 0] 28)).mono bA.size)
  obtain ⟨wB, hwB⟩ : ∃ wB, wB = wA.alloc (.cells #[.slice none 0 0] 28) := ⟨_, rfl⟩
  have eB : wB.heap.size = w.heap.size + 1 + 1 := by rw [hwB]; simp; omega
  rw [← hwB] at hB bB
  rw [eA] at hB
  have hC := Box.new wB #[.slice none 0 0] 28
  have kC := belNew wB (.cells #[.slice none 0 0] 28)
  have bC := bB.trans (kC.mono bB.size)
  obtain ⟨wC, hwC⟩ : ∃ wC, wC = wB.alloc (.cells #[.slice none 0 0] 28) := ⟨_, rfl⟩
  have eC : wC.heap.size = w.heap.size + 1 + 1 + 1 := by rw [hwC]; simp; omega
  rw [← hwC] at hC kC bC
  rw [eB] at hC
  have hB' := hB.later kC
  have HT := Lib.hid (toBoxS_any l _ wC (h.later bC) hl hm)
  have HEC := Lib.hid eC
  have HWC : Hid (wC = ((w.alloc (.cells #[.slice ad l.length cap] 55)).alloc (.cells #[.slice none 0 0] 28)).alloc (.cells #[.slice none 0 0] 28)) := by rw [← hwA, ← hwB, ← hwC]; exact rfl
  clear h hB bB bA kC eA eB eC hwA hwB hwC hm
  go_enter Try.func28, Try.ntmps28
  go_wp2_with fail
  rw [← HWC.out]
  refine HT.out.mono ?_
  rintro e w1 ⟨v1, hs1, rfl, S1, k1⟩
  obtain ⟨p, q, rfl⟩ := S1.row.form
  have B1 := hB'.later k1
  have C1 := hC.later k1
  have b1 := bC.trans (k1.mono bC.size)
  have u0 := B1.cell 0 _ rfl
  have x0 := C1.cell 0 _ rfl
  have f0 := B1.loose 0
  have y0 := C1.loose 0
  have C2 : Box (w1.setCell ⟨w.heap.size + 1 + 1, 0, none⟩ (.slice p hs1.length q)) (w.heap.size + 1 + 1) #[.slice p hs1.length q] 28 := C1.set 0 _
  have B2 : Box (w1.setCell ⟨w.heap.size + 1 + 1, 0, none⟩ (.slice p hs1.length q)) (w.heap.size + 1) #[.slice none 0 0] 28 := B1.other (by omega) 0 _
  have hg1 : w.heap.size + 1 + 1 < wC.heap.size := by have := HEC.out; omega
  have W1 := S1.where'
  have S2 := S1.shift (stored_grown w1 (w.heap.size + 1 + 1) 0 (.slice p hs1.length q)) (fun k hk => by
    have hk' : k = w.heap.size + 1 + 1 := (Option.some.inj hk).symm
    exact ⟨fun e => by have := (W1.1 k e).1; omega, fun j x hj e => by have := (W1.2 j x hj k e).1; omega⟩)
  have b2 := b1.setCell (p := ⟨w.heap.size + 1 + 1, 0, none⟩) (show w.heap.size ≤ w.heap.size + 1 + 1 by omega) (.slice p hs1.length q)
  have S3 := S2.shift (stored_grown _ (w.heap.size + 1) 0 (.slice p hs1.length q)) (fun k hk => by
    have hk' : k = w.heap.size + 1 := (Option.some.inj hk).symm
    exact ⟨fun e => by have := (W1.1 k e).1; omega, fun j x hj e => by have := (W1.2 j x hj k e).1; omega⟩)
  have b3 := b2.setCell (p := ⟨w.heap.size + 1, 0, none⟩) (show w.heap.size ≤ w.heap.size + 1 by omega) (.slice p hs1.length q)
  have z0 := (B2.set 0 (.slice p hs1.length q)).cell 0 _ rfl
  have x1 := C2.cell 0 _ rfl
  have u1 := B2.cell 0 _ rfl
  have f1 := B2.loose 0
  have HS3 := Lib.hid S3
  have HB3 := Lib.hid b3
  have HG := Lib.hid hg1
  clear hB' hC bC HT HWC HEC B1 C1 b1 S1 hg1 k1 W1 S2 b2 S3 b3 C2 B2
  go_wp2
  refine bodyPost_ret (v := .agg #[.slice p hs1.length q]) (by simp [results, Try.results28, go_sem, z0]) rfl ⟨_, hs1, rfl, ?_, HB3.out⟩
  exact HS3.out.lower (by have := HG.out; omega)

end Go.Proofs.Ytjfilicddnhniaa

/- Mails and boxes: there is one of each. -/
namespace Go.Proofs.Ytjfilicddnhniaa

instance : Inhabited Ml := ⟨⟨0, 0, ⟨#[]⟩⟩⟩
instance : Inhabited BxH := ⟨⟨0, ⟨#[]⟩, ⟨#[]⟩, 0, none, 0, 0⟩⟩

end Go.Proofs.Ytjfilicddnhniaa

/- Lists that came in: a row read cell by cell is a list. -/
namespace Go.Proofs.Ytjfilicddnhniaa
open Go.RowKit Go.ChangeShapes Go.WideShapes Go.ChangeAt Go.Deep Go.Joins

section
variable {W : World}

theorem rows_of_cells {α : Type} [Inhabited α] (E : Enc α) {a : Addr} {len cap : Nat} (hl : len ≤ cap) (hp : ∀ i, i < len → ∃ x : α, ∀ k u, (E.f x)[k]? = some u → W.cell? (a.add (i * E.sz + k)) = some u) (Pr : α → Prop)
    (hpr : ∀ i, i < len → ∀ x : α, (∀ k u, (E.f x)[k]? = some u → W.cell? (a.add (i * E.sz + k)) = some u) → Pr x) :
    ∃ l : List α, l.length = len ∧ Rows' E W (.slice (some a) len cap) l ∧ ∀ x ∈ l, Pr x := by
  obtain ⟨f, hf⟩ := choose_lt hp
  refine ⟨(List.range len).map f, by simp, ?_, ?_⟩
  · by_cases h0 : len = 0
    · subst h0
      exact .inl ⟨rfl, _, _, rfl⟩
    · have hsp : a.spot = none := by
        have hne : (E.f (f 0))[0]? = some ((E.f (f 0))[0]'(by rw [E.len]; exact E.pos)) := List.getElem?_eq_getElem _
        have := hf 0 (by omega) 0 _ hne
        have h2 := World.cell?_spot this
        simpa [Addr.add] using h2
      obtain ⟨b, off, spot⟩ := a
      simp only at hsp
      subst hsp
      refine .inr ⟨b, off, cap, by simp, by simpa using hl, ?_, ?_⟩
      · have hne : (E.f (f 0))[0]? = some ((E.f (f 0))[0]'(by rw [E.len]; exact E.pos)) := List.getElem?_eq_getElem _
        have := hf 0 (by omega) 0 _ hne
        rw [Addr.add_lit] at this
        exact World.block_lt_of_cell? W _ this
      · intro j x hj k u hu
        have hjl : j < len := by have := (List.getElem?_eq_some_iff.1 hj).1; simpa using this
        have hx : f j = x := by simpa [hjl] using hj
        subst hx
        have := hf j hjl k u hu
        rw [Addr.add_lit] at this
        rw [Nat.add_assoc]
        exact this
  · intro x hx
    simp only [List.mem_map, List.mem_range] at hx
    obtain ⟨i, hi, rfl⟩ := hx
    exact hpr i hi _ (hf i hi)
end

end Go.Proofs.Ytjfilicddnhniaa

/- States that come in as arguments. -/
namespace Go.Proofs.Ytjfilicddnhniaa
open Go.RowKit Go.ChangeShapes Go.WideShapes Go.ChangeAt Go.Deep Go.Joins

theorem list3 {α : Type} {l : List α} (h : l.length = 3) : ∃ v0 v1 v2, l = [v0, v1, v2] := by
  match l, h with
  | [v0, v1, v2], _ => exact ⟨v0, v1, v2, rfl⟩
theorem list5 {α : Type} {l : List α} (h : l.length = 5) : ∃ v0 v1 v2 v3 v4, l = [v0, v1, v2, v3, v4] := by
  match l, h with
  | [v0, v1, v2, v3, v4], _ => exact ⟨v0, v1, v2, v3, v4, rfl⟩

section
variable {H : Type} {enc : TypeId × Value → H} {P : Program} {w : World} {base : Nat} {spare : Nat → Bool} {held : Bool}

/-- The fields of a struct, each of one cell. -/
theorem trod_ones {t : TypeId} {fs : Array Field} {fuel : Nat} {cs : List Value} {x : DataW H × List MemPlace} (hs : P.underlying t = some (.struct fs)) (hone : oneCellFields P fs = true)
    (h : DataW.trod enc P w base spare held fuel t cs = some x) :
    ∃ n : Nat, cs.length = P.cellsOf t ∧ ∀ (i : Nat) (f : Field) (v : Value), fs[i]? = some f → cs[i]? = some v → ∃ y, DataW.trod enc P w base spare held n f.type [v] = some y := by
  obtain ⟨xs, n, _, _, hl, hlen, hf⟩ := DataW.trod_struct hs h
  refine ⟨n, hl, fun i f v hi hv => ?_⟩
  obtain ⟨o, k⟩ := hone_of hone i f hi
  have hx := hf i f hi
  rw [o, k] at hx
  have e : (List.drop i cs).take 1 = [v] := by
    rw [List.take_one, List.head?_drop, hv]; rfl
  rw [e] at hx
  have hi' : i < xs.length := by
    rw [hlen]
    exact (Array.getElem?_eq_some_iff.1 hi).1
  exact ⟨xs[i], by first | (rw [hx]; exact List.getElem?_eq_getElem hi') | (rw [List.getElem?_eq_getElem hi'] at hx; exact hx) | simpa [hi'] using hx⟩
end

/-- A state that came in: its boxes can be read; their texts are texts. -/
def StIn (W : World) (v : Value) (l : List Bx) : Prop := ∃ u, v = .agg #[u] ∧ LBRd W u l ∧ l.length ≤ 9223372036854775807 ∧ ∀ b ∈ l, bxShort b

section
variable {H : Type} {enc : TypeId × Value → H} {W : World}

set_option maxRecDepth 100000 in
theorem mail_form {fuel : Nat} {l : List Value} {x : DataW H × List MemPlace} (hf : DataW.trod enc Try.prog W 0 (fun _ => true) true fuel 172 l = some x) :
    ∃ y : Ml, l = lmlE.f y ∧ mlShort y := by
  have hC : Try.prog.cellsOf 172 = 3 := by kernel_rfl
  obtain ⟨n, hl, hx⟩ := trod_ones Try.underlying172 (by kernel_rfl) hf
  obtain ⟨v0, v1, v2, rfl⟩ := list3 (hl.trans hC)
  obtain ⟨y0, h0⟩ := hx 0 _ v0 rfl rfl
  obtain ⟨y1, h1⟩ := hx 1 _ v1 rfl rfl
  obtain ⟨y2, h2⟩ := hx 2 _ v2 rfl rfl
  obtain ⟨k0, hk0, _, _⟩ := DataW.trod_int Try.underlying3 h0
  obtain ⟨k1, hk1, _, _⟩ := DataW.trod_int Try.underlying3 h1
  obtain ⟨s2, hk2, _, z2⟩ := DataW.trod_string Try.underlying9 h2
  simp at hk0 hk1 hk2
  have hml : maxLen ≤ 9223372036854775807 := by decide
  exact ⟨⟨k0, k1, s2⟩, by rw [hk0, hk1, hk2]; rfl, Nat.le_trans z2 hml⟩

set_option maxRecDepth 100000 in
theorem mails_of_trod {fuel : Nat} {v : Value} {x : DataW H × List MemPlace} (h : DataW.trod enc Try.prog W 0 (fun _ => true) true fuel 125 [v] = some x) :
    ∃ l : List Ml, Rows' lmlE W v l ∧ l.length ≤ 9223372036854775807 ∧ ∀ m ∈ l, mlShort m := by
  have hC : Try.prog.cellsOf 172 = 3 := by kernel_rfl
  have hml : maxLen ≤ 9223372036854775807 := by decide
  rcases open_slice Try.underlying125 h with ⟨hv, _⟩ | ⟨a, len, cap, m, n, D, Pl, hv, _, hl, hm, hmm, _, hc⟩
  · simp at hv; subst hv
    exact ⟨[], .inl ⟨rfl, _, _, rfl⟩, by simp, by simp⟩
  · simp at hv; subst hv
    have hm2 : m = cap := by simpa using hmm
    have hex : ∀ i, i < len → ∃ y : Ml, (∀ k u, (lmlE.f y)[k]? = some u → W.cell? (a.add (i * 3 + k)) = some u) ∧ mlShort y := by
      intro i hi
      obtain ⟨cs', h1, h2⟩ := hc i (by omega)
      rw [hC] at h1
      obtain ⟨_, hlen, hcell⟩ := World.cells?_some h1
      obtain ⟨y, hy, z⟩ := mail_form h2
      refine ⟨y, fun k u hu => ?_, z⟩
      have hk : k < 3 := by have h9 := (List.getElem?_eq_some_iff.1 hu).1; rw [lmlE.len y] at h9; exact h9
      have := hcell k hk
      rw [add_add] at this
      rw [this, hy]
      exact hu
    obtain ⟨l, hlen, hr, hp⟩ := rows_of_cells lmlE hl (fun i hi => by
      obtain ⟨y, hy, _⟩ := hex i hi
      exact ⟨y, hy⟩) mlShort (fun i hi y hy => by
      obtain ⟨z, hz, hs⟩ := hex i hi
      have e2 := hy 2 _ rfl
      have g2 := hz 2 _ rfl
      change W.cell? (a.add (i * 3 + 2)) = _ at e2
      rw [g2] at e2
      simp at e2
      unfold mlShort at hs ⊢
      rw [← e2]
      exact hs)
    exact ⟨l, hr, by omega, hp⟩

/-- A box as it came in: its mails can be read. -/
def HdIn (W : World) (x : BxH) : Prop := x.user.size ≤ 9223372036854775807 ∧ x.name.size ≤ 9223372036854775807 ∧ ∃ l : List Ml, Rows' lmlE W x.mv l ∧ l.length ≤ 9223372036854775807 ∧ ∀ m ∈ l, mlShort m

set_option maxRecDepth 100000 in
theorem box_form' {fuel : Nat} {l : List Value} {x : DataW H × List MemPlace} (hf : DataW.trod enc Try.prog W 0 (fun _ => true) true fuel 127 l = some x) :
    ∃ y : BxH, l = lhdE.f y ∧ HdIn W y := by
  have hC : Try.prog.cellsOf 127 = 5 := by kernel_rfl
  obtain ⟨n, hl, hx⟩ := trod_ones Try.underlying127 (by kernel_rfl) hf
  obtain ⟨v0, v1, v2, v3, v4, rfl⟩ := list5 (hl.trans hC)
  obtain ⟨y0, h0⟩ := hx 0 _ v0 rfl rfl
  obtain ⟨y1, h1⟩ := hx 1 _ v1 rfl rfl
  obtain ⟨y2, h2⟩ := hx 2 _ v2 rfl rfl
  obtain ⟨y3, h3⟩ := hx 3 _ v3 rfl rfl
  obtain ⟨y4, h4⟩ := hx 4 _ v4 rfl rfl
  obtain ⟨k0, hk0, _, _⟩ := DataW.trod_int Try.underlying3 h0
  obtain ⟨s1, hk1, _, z1⟩ := DataW.trod_string Try.underlying9 h1
  obtain ⟨s2, hk2, _, z2⟩ := DataW.trod_string Try.underlying9 h2
  obtain ⟨k3, hk3, _, _⟩ := DataW.trod_int Try.underlying3 h3
  obtain ⟨ms, hr, hlen, hsh⟩ := mails_of_trod h4
  simp at hk0 hk1 hk2 hk3
  have hml : maxLen ≤ 9223372036854775807 := by decide
  obtain ⟨a, n, c, rfl⟩ : ∃ ad n cap, v4 = .slice ad n cap := by
    rcases hr.ways with ⟨_, a, c, e⟩ | ⟨_, g, off, c, e, _⟩
    · exact ⟨_, _, _, e⟩
    · exact ⟨_, _, _, e⟩
  exact ⟨⟨k0, s1, s2, k3, a, n, c⟩, by rw [hk0, hk1, hk2, hk3]; rfl, Nat.le_trans z1 hml, Nat.le_trans z2 hml, ms, hr, hlen, hsh⟩

set_option maxRecDepth 100000 in
theorem boxes_of_trod {fuel : Nat} {v : Value} {x : DataW H × List MemPlace} (h : DataW.trod enc Try.prog W 0 (fun _ => true) true fuel 53 [v] = some x) :
    ∃ l : List Bx, LBRd W v l ∧ l.length ≤ 9223372036854775807 ∧ ∀ b ∈ l, bxShort b := by
  have hC : Try.prog.cellsOf 127 = 5 := by kernel_rfl
  have hml : maxLen ≤ 9223372036854775807 := by decide
  have hrows : ∃ hs : List BxH, Rows' lhdE W v hs ∧ hs.length ≤ 9223372036854775807 ∧ ∀ y ∈ hs, HdIn W y := by
    rcases open_slice Try.underlying53 h with ⟨hv, _⟩ | ⟨a, len, cap, m, n, D, Pl, hv, _, hl, hm, hmm, _, hc⟩
    · simp at hv; subst hv
      exact ⟨[], .inl ⟨rfl, _, _, rfl⟩, by simp, by simp⟩
    · simp at hv; subst hv
      have hm2 : m = cap := by simpa using hmm
      have hex : ∀ i, i < len → ∃ y : BxH, (∀ k u, (lhdE.f y)[k]? = some u → W.cell? (a.add (i * 5 + k)) = some u) ∧ HdIn W y := by
        intro i hi
        obtain ⟨cs', h1, h2⟩ := hc i (by omega)
        rw [hC] at h1
        obtain ⟨_, hlen, hcell⟩ := World.cells?_some h1
        obtain ⟨y, hy, z⟩ := box_form' h2
        refine ⟨y, fun k u hu => ?_, z⟩
        have hk : k < 5 := by have h9 := (List.getElem?_eq_some_iff.1 hu).1; rw [lhdE.len y] at h9; exact h9
        have := hcell k hk
        rw [add_add] at this
        rw [this, hy]
        exact hu
      obtain ⟨l, hlen, hr, hp⟩ := rows_of_cells lhdE hl (fun i hi => by
        obtain ⟨y, hy, _⟩ := hex i hi
        exact ⟨y, hy⟩) (HdIn W) (fun i hi y hy => by
        obtain ⟨z, hz, hs⟩ := hex i hi
        have e1 := hy 1 _ rfl
        have e2 := hy 2 _ rfl
        have e4 := hy 4 _ rfl
        have g1 := hz 1 _ rfl
        have g2 := hz 2 _ rfl
        have g4 := hz 4 _ rfl
        change W.cell? (a.add (i * 5 + 1)) = _ at e1
        change W.cell? (a.add (i * 5 + 2)) = _ at e2
        change W.cell? (a.add (i * 5 + 4)) = _ at e4
        rw [g1] at e1
        rw [g2] at e2
        rw [g4] at e4
        have q1 : z.user = y.user := by simpa using e1
        have q2 : z.name = y.name := by simpa using e2
        have q4 : z.mv = y.mv := Option.some.inj e4
        unfold HdIn at hs ⊢
        rw [← q1, ← q2, ← q4]
        exact hs)
      exact ⟨l, hr, by omega, hp⟩
  obtain ⟨hs, hr, hlen, hp⟩ := hrows
  have hch : ∀ y : BxH, ∃ b : Bx, HdIn W y → ((y.valid = b.valid ∧ y.user = b.user ∧ y.name = b.name ∧ y.next = b.next) ∧ Rows' lmlE W y.mv b.mails) ∧ bxShort b := by
    intro y
    by_cases c : HdIn W y
    · obtain ⟨z1, z2, ms, hr, hl, hsh⟩ := c
      exact ⟨⟨y.valid, y.user, y.name, y.next, ms⟩, fun _ => ⟨⟨⟨rfl, rfl, rfl, rfl⟩, hr⟩, z1, z2, hl, hsh⟩⟩
    · exact ⟨⟨0, ⟨#[]⟩, ⟨#[]⟩, 0, []⟩, fun e => absurd e c⟩
  obtain ⟨f, hf⟩ := Classical.axiomOfChoice hch
  refine ⟨hs.map f, ⟨hs, hr, by simp, fun j y b h1 h2 => ?_⟩, by simpa using hlen, fun b hb => ?_⟩
  · rw [List.getElem?_map, h1] at h2
    cases h2
    exact (hf y (hp y (List.mem_of_getElem? h1))).1
  · obtain ⟨y, hy, rfl⟩ := List.mem_map.1 hb
    exact (hf y (hp y hy)).2

set_option maxRecDepth 100000 in
theorem open_State {b0 : Nat} {r : Reach} {v : Value} {d : DataW H} {p : List MemPlace} (hv : Value.okWide Try.prog W r b0 55 v) (h : DataW.Trod enc Try.prog W 0 (fun _ => true) true 55 v d p) : ∃ l : List Bx, StIn W v l := by
  obtain ⟨cs, rfl, hsz⟩ := okWide_struct Try.underlying55 hv
  obtain ⟨fuel, hf⟩ := h
  have hC : Try.prog.cellsOf 55 = 1 := by kernel_rfl
  obtain ⟨l⟩ := cs
  have hl1 : l.length = 1 := hsz.trans hC
  obtain ⟨u, rfl⟩ := List.length_eq_one_iff.1 hl1
  obtain ⟨n, _, hx⟩ := trod_ones Try.underlying55 (by kernel_rfl) hf
  obtain ⟨y, h0⟩ := hx 0 _ u rfl rfl
  obtain ⟨bs, hr, hlen, hsh⟩ := boxes_of_trod h0
  exact ⟨bs, u, rfl, hr, hlen, hsh⟩
end

end Go.Proofs.Ytjfilicddnhniaa
