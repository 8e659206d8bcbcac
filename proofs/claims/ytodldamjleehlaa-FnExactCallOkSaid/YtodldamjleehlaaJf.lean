/- Texts of our own, joined. -/
import Derived.Test.YtodldamjleehlaaJe
import Derived.Test.YtodldamjleehlaaJa
import Derived.Lib.SmallJoins
import Derived.ProofKit
import Derived.Test.YtodldamjleehlaaJb
/- CallOk of the program, the whole of it. -/
namespace Go.Proofs.Ytodldamjleehlaa
open Go.RowKit

theorem Cal.used_same {c : Cal} (h : c.fits) : c.used.kind = c.kind ∧ c.used.user = c.user ∧ c.used.box = c.box := by
  unfold Cal.fits at h
  unfold Cal.used
  split at h <;> rename_i h1
  · rw [if_pos h1]; exact ⟨rfl, rfl, rfl⟩
  rw [if_neg h1]
  split at h <;> rename_i h2
  · rw [if_pos h2]; exact ⟨rfl, rfl, rfl⟩
  rw [if_neg h2]
  split at h <;> rename_i h3
  · rw [if_pos h3]; exact ⟨rfl, rfl, rfl⟩
  rw [if_neg h3]
  split at h <;> rename_i h4
  · rw [if_pos h4]; exact ⟨rfl, rfl, rfl⟩
  rw [if_neg h4]
  split at h <;> rename_i h5
  · rw [if_pos h5]; exact ⟨rfl, rfl, rfl⟩
  exact h.elim

theorem sameP_iff {p q : Prop} (h : p ↔ q) : sameP p = sameP q := by
  by_cases hp : p
  · rw [sameP_yes hp, sameP_yes (h.1 hp)]
  · rw [sameP_no hp, sameP_no (fun e => hp (h.2 e))]

theorem usedOf_any (c : Cal) (u : Value) (w : World) (hu : Rows' intE w u c.uids) (hl : c.uids.length ≤ 1048576) :
    Calls Try.prog 13 #[c.v u] w fun e w' => (∃ u', e = .returned (.tuple #[c.used.v u', .bool (sameP c.fits)]) ∧ Rows' intE w u' c.used.uids) ∧ Below w.heap.size w w' := by
  obtain ⟨k, us, bo, tob, ui, l, fl, tx⟩ := c
  unfold Cal.v
  simp only at hu hl ⊢
  have nil : Rows' intE w (.slice none 0 0) [] := .inl ⟨rfl, _, _, rfl⟩
  unfold Cal.used Cal.fits
  simp only
  by_cases h1 : k = 1
  · subst h1
    refine (used1 us bo tob tx ui fl u w).mono ?_
    rintro e w' ⟨rfl, k1⟩
    refine ⟨⟨_, ?_, by simpa using nil⟩, k1⟩
    rw [sameP_yes (by simp)]; rfl
  by_cases h2 : k = 2
  · subst h2
    refine (used2 us bo tob tx ui fl u w).mono ?_
    rintro e w' ⟨rfl, k1⟩
    refine ⟨⟨_, ?_, by simpa using nil⟩, k1⟩
    rw [sameP_yes (by simp)]; rfl
  rw [if_neg (show ¬ (k = 1 ∨ k = 2) by omega), if_neg (show ¬ (k = 1 ∨ k = 2) by omega)]
  by_cases h3 : k = 3
  · subst h3
    refine (used3 us bo tob tx ui fl u w _ rfl).mono ?_
    rintro e w' ⟨rfl, k1⟩
    refine ⟨⟨_, ?_, by simpa using nil⟩, k1⟩
    rw [if_pos rfl, if_pos rfl]
    have : sameP ((0 ≤ fl ∧ fl ≤ 7) ∧ tx.size ≤ 100) = (decide (0 ≤ fl ∧ fl ≤ 7) && decide ((tx.size : Int) ≤ 100)) := by
      by_cases a : 0 ≤ fl ∧ fl ≤ 7
      · by_cases b : tx.size ≤ 100
        · rw [sameP_yes ⟨a, b⟩, decide_eq_true a, decide_eq_true (by omega)]; rfl
        · rw [sameP_no (fun e => b e.2), decide_eq_true a, decide_eq_false (by omega)]; rfl
      · rw [sameP_no (fun e => a e.1), decide_eq_false a]; rfl
    rw [this]
    rfl
  rw [if_neg h3, if_neg h3]
  by_cases h4 : k = 4
  · subst h4
    refine (used4 us bo tob tx ui fl u w _ rfl).mono ?_
    rintro e w' ⟨rfl, k1⟩
    refine ⟨⟨_, ?_, by simpa using nil⟩, k1⟩
    rw [if_pos rfl, if_pos rfl]
    have : sameP ((1 ≤ ui ∧ ui ≤ 9999) ∧ (0 ≤ fl ∧ fl ≤ 7)) = (decide (1 ≤ ui ∧ ui ≤ 9999) && decide (0 ≤ fl ∧ fl ≤ 7)) := by
      by_cases a : 1 ≤ ui ∧ ui ≤ 9999
      · by_cases b : 0 ≤ fl ∧ fl ≤ 7
        · rw [sameP_yes ⟨a, b⟩, decide_eq_true a, decide_eq_true b]; rfl
        · rw [sameP_no (fun e => b e.2), decide_eq_true a, decide_eq_false b]; rfl
      · rw [sameP_no (fun e => a e.1), decide_eq_false a]; rfl
    rw [this]
    rfl
  rw [if_neg h4, if_neg h4]
  by_cases h5 : k = 5
  · subst h5
    obtain ⟨ad, cap, rfl, _⟩ := hu.intsD
    refine (used5 us bo tob tx ui fl ad l.length cap w l hu hl _ rfl).mono ?_
    rintro e w' ⟨rfl, k1⟩
    refine ⟨⟨_, ?_, by simpa using hu⟩, k1⟩
    rw [if_pos rfl, if_pos rfl]
    rfl
  rw [if_neg h5, if_neg h5]
  by_cases h6 : k = 6
  · subst h6
    refine (used6 us bo tob tx ui fl u w _ rfl).mono ?_
    rintro e w' ⟨rfl, k1⟩
    refine ⟨⟨_, ?_, by simpa using nil⟩, k1⟩
    rw [if_pos rfl, if_pos rfl]
    have : sameP ((1 ≤ ui ∧ ui ≤ 9999) ∧ wdOk tob) = (decide (1 ≤ ui ∧ ui ≤ 9999) && decide (wdOk tob)) := by
      by_cases a : 1 ≤ ui ∧ ui ≤ 9999
      · by_cases b : wdOk tob
        · rw [sameP_yes ⟨a, b⟩, decide_eq_true a, decide_eq_true b]; rfl
        · rw [sameP_no (fun e => b e.2), decide_eq_true a, decide_eq_false b]; rfl
      · rw [sameP_no (fun e => a e.1), decide_eq_false a]; rfl
    rw [this]
    rfl
  rw [if_neg h6, if_neg h6]
  refine (used0 us bo tob tx ui fl u w k h1 h2 h3 h4 h5 h6).mono ?_
  rintro e w' ⟨rfl, k1⟩
  refine ⟨⟨_, ?_, by simpa using nil⟩, k1⟩
  rw [sameP_no (fun e => e)]; rfl

set_option maxRecDepth 100000 in
set_option maxHeartbeats 4000000 in
theorem implCallOk_any (c : Cal) (u : Value) (w : World) (hu : Rows' intE w u c.uids) (hl : c.uids.length ≤ 1048576) :
    Calls Try.prog 7 #[c.v u] w fun e w' => e = .returned (.bool (sameP c.ok)) ∧ Below w.heap.size w w' := by
  rw [sameP_iff c.ok_iff]
  obtain ⟨D, hD⟩ : ∃ D, sameP (c.fits ∧ wdOk c.user ∧ wdOk c.box ∧ c.used = c) = D := ⟨_, rfl⟩
  have HD := Lib.hid hD
  rw [hD]
  clear hD
  obtain ⟨ad, cap, rfl, _⟩ := hu.intsD
  have b0 : Below w.heap.size w (w.alloc (.cells (c.cs (.slice ad c.uids.length cap)) 27)) := belNew _ _
  have q0 := Box.new w (c.cs (.slice ad c.uids.length cap)) 27
  have HUS := Lib.hid (usedOf_any c (.slice ad c.uids.length cap) _ (hu.later b0) hl)
  have HSU : Hid (c.fits → c.used.kind = c.kind ∧ c.used.user = c.user ∧ c.used.box = c.box) := fun h => Cal.used_same h
  have hul : c.used.uids.length ≤ 1048576 := by
    unfold Cal.used
    split
    · exact Nat.zero_le _
    split
    · exact Nat.zero_le _
    split
    · exact Nat.zero_le _
    split
    · exact hl
    split <;> exact Nat.zero_le _
  obtain ⟨U, hU⟩ : ∃ U, c.used = U := ⟨_, rfl⟩
  obtain ⟨F, hF⟩ : ∃ F, sameP c.fits = F := ⟨_, rfl⟩
  rw [hU] at HUS HSU HD hul
  rw [hF] at HUS
  have HF := Lib.hid hF
  obtain ⟨P, hP⟩ : ∃ P, c.fits = P := ⟨_, rfl⟩
  rw [hP] at HF HSU HD
  clear hU hF hP
  obtain ⟨k, us, bo, tob, ui, l, fl, tx⟩ := c
  obtain ⟨k', us', bo', tob', ui', l', fl', tx'⟩ := U
  have HR := Lib.hid hu
  have HL := Lib.hid hl
  have HL2 := Lib.hid hul
  clear hu hl hul
  unfold Cal.v at HUS ⊢
  unfold Cal.cs at b0 q0 HUS
  simp only at b0 q0 HUS HSU HD HR HL HL2 ⊢
  go_enter Try.func7, Try.ntmps7
  go_wp2_with fail
  generalize w.alloc (.cells #[.int .i64 k, .string us, .string bo, .string tob, .int .i64 ui, .slice ad l.length cap, .int .i64 fl, .string tx] 27) = W at *
  refine HUS.out.mono ?_
  rintro e w2 ⟨⟨u', rfl, hr⟩, k2⟩
  obtain ⟨au, cu, rfl, _⟩ := hr.intsD
  have b2 := b0.trans (k2.mono b0.size)
  have X2 := q0.later k2
  have Y3 := Box.new w2 #[.int .i64 k', .string us', .string bo', .string tob', .int .i64 ui', .slice au l'.length cu, .int .i64 fl', .string tx'] 27
  have k3 := belNew w2 (.cells #[.int .i64 k', .string us', .string bo', .string tob', .int .i64 ui', .slice au l'.length cu, .int .i64 fl', .string tx'] 27)
  obtain ⟨w3, hw3⟩ : ∃ w3, w2.alloc (.cells #[.int .i64 k', .string us', .string bo', .string tob', .int .i64 ui', .slice au l'.length cu, .int .i64 fl', .string tx'] 27) = w3 := ⟨_, rfl⟩
  rw [hw3] at Y3 k3
  have HW3 := Lib.hid hw3
  have HB3 : Hid (∀ x, Below w3.heap.size w3 x → Box x w.heap.size #[.int .i64 k, .string us, .string bo, .string tob, .int .i64 ui, .slice ad l.length cap, .int .i64 fl, .string tx] 27 ∧ Box x w2.heap.size #[.int .i64 k', .string us', .string bo', .string tob', .int .i64 ui', .slice au l'.length cu, .int .i64 fl', .string tx'] 27 ∧ Rows' intE x (.slice au l'.length cu) l' ∧ Rows' intE x (.slice ad l.length cap) l ∧ Below w.heap.size w x) := by
    intro x hx
    have b3 := b2.trans (k3.mono b2.size)
    exact ⟨(X2.later k3).later hx, Y3.later hx, ((hr.later k2).later k3).later hx, HR.out.later (b3.trans (hx.mono b3.size)), b3.trans (hx.mono b3.size)⟩
  clear hr k2 b0 q0 HUS X2 Y3 k3 b2 hw3
  cases F with
  | false =>
    have HE : Hid (D = false) := by
      show D = false
      rw [← HD.out]
      refine sameP_no (fun h => ?_)
      have h1 := HF.out
      rw [sameP_yes h.1] at h1
      cases h1
    obtain ⟨_, _, _, _, bE⟩ := HB3.out w3 (Below.refl _ _)
    have HBE := Lib.hid bE
    clear bE
    go_wp2
    go_ret
    exact ⟨by rw [HE.out]; rfl, by rw [HW3.out]; exact HBE.out⟩
  | true =>
    have hP : P := by
      have h1 := HF.out
      by_cases h : P
      · exact h
      · rw [sameP_no h] at h1; cases h1
    obtain ⟨s1, s2, s3⟩ := HSU.out hP
    subst s1 s2 s3
    obtain ⟨QU, hQU⟩ : ∃ QU, decide (wdOk us') = QU := ⟨_, rfl⟩
    obtain ⟨QB, hQB⟩ : ∃ QB, decide (wdOk bo') = QB := ⟨_, rfl⟩
    have HQU := Lib.hid hQU
    have HQB := Lib.hid hQB
    have HP := Lib.hid hP
    clear hQU hQB hP HF HSU
    obtain ⟨x3, y3, _, _, _⟩ := HB3.out w3 (Below.refl _ _)
    obtain ⟨a0, a1, a2, a3, a4, a5, a6, a7, _⟩ := x3.eightL
    clear x3 y3
    go_upto_region 2 with fail
    rw [HW3.out]
    go_wp2_with fail
    refine (implWordOk_any _ _).mono ?_
    rintro e w4 ⟨rfl, k4⟩
    rw [HQU.out]
    clear a0 a1 a2 a3 a4 a5 a6 a7
    cases QU with
    | false =>
      have HE : Hid (D = false) := by
        show D = false
        rw [← HD.out]
        refine sameP_no (fun h => ?_)
        have h1 := HQU.out
        rw [decide_eq_true h.2.1] at h1
        cases h1
      have HBE := Lib.hid (HB3.out w4 k4).2.2.2.2
      clear k4
      go_wp2
      go_ret
      exact ⟨by rw [HE.out]; rfl, HBE.out⟩
    | true =>
      obtain ⟨x3, y3, _, _, _⟩ := HB3.out w4 k4
      obtain ⟨a0, a1, a2, a3, a4, a5, a6, a7, _⟩ := x3.eightL
      have HK4 := Lib.hid k4
      clear x3 y3 k4
      go_wp2_with fail
      refine (implWordOk_any _ _).mono ?_
      rintro e w5 ⟨rfl, k5⟩
      rw [HQB.out]
      clear a0 a1 a2 a3 a4 a5 a6 a7
      have HK5 := Lib.hid (HK4.out.trans (k5.mono HK4.out.size))
      clear k5
      cases QB with
      | false =>
        have HE : Hid (D = false) := by
          show D = false
          rw [← HD.out]
          refine sameP_no (fun h => ?_)
          have h1 := HQB.out
          rw [decide_eq_true h.2.2.1] at h1
          cases h1
        have HBE := Lib.hid (HB3.out w5 HK5.out).2.2.2.2
        go_wp2
        go_ret
        exact ⟨by rw [HE.out]; rfl, HBE.out⟩
      | true =>
        have HE : Hid (D = sameP ((⟨k', us', bo', tob', ui', l', fl', tx'⟩ : Cal) = ⟨k', us', bo', tob, ui, l, fl, tx⟩)) := by
          show D = _
          rw [← HD.out]
          refine sameP_iff ⟨fun h => h.2.2.2, fun h => ⟨HP.out, ?_, ?_, h⟩⟩
          · exact of_decide_eq_true HQU.out
          · exact of_decide_eq_true HQB.out
        obtain ⟨x3, y3, r1, r2, bE⟩ := HB3.out w5 HK5.out
        obtain ⟨a0, a1, a2, a3, a4, a5, a6, a7, _⟩ := x3.eightL
        obtain ⟨d0, d1, d2, d3, d4, d5, d6, d7, _⟩ := y3.eightL
        have HS := Lib.hid (sameCall_any ⟨k', us', bo', tob', ui', l', fl', tx'⟩ ⟨k', us', bo', tob, ui, l, fl, tx⟩ _ _ w5 rfl rfl rfl r1 r2 HL2.out)
        unfold Cal.v at HS
        rw [← HE.out] at HS
        have HBE := Lib.hid bE
        clear x3 y3 r1 r2 bE
        go_wp2_with fail
        refine HS.out.mono ?_
        rintro e w6 ⟨rfl, k6⟩
        clear a0 a1 a2 a3 a4 a5 a6 a7 d0 d1 d2 d3 d4 d5 d6 d7
        go_wp2
        go_ret
        exact ⟨rfl, HBE.out.trans (k6.mono HBE.out.size)⟩

end Go.Proofs.Ytodldamjleehlaa

/- Records and items that come in as arguments. -/
namespace Go.Proofs.Ytodldamjleehlaa
open Go.RowKit Go.ChangeShapes Go.WideShapes Go.ChangeAt Go.Deep Go.Joins

theorem list8 {α : Type} {l : List α} (h : l.length = 8) : ∃ v0 v1 v2 v3 v4 v5 v6 v7, l = [v0, v1, v2, v3, v4, v5, v6, v7] := by
  match l, h with
  | [v0, v1, v2, v3, v4, v5, v6, v7], _ => exact ⟨v0, v1, v2, v3, v4, v5, v6, v7, rfl⟩
section
variable {H : Type} {enc : TypeId × Value → H} {P : Program} {w : World} {base : Nat} {spare : Nat → Bool} {held : Bool}

theorem trod_eight {t : TypeId} {f0 f1 f2 f3 f4 f5 f6 f7 : Field} {fuel : Nat} {cs : List Value} {x : DataW H × List MemPlace} (hs : P.underlying t = some (.struct #[f0, f1, f2, f3, f4, f5, f6, f7])) (hone : oneCellFields P #[f0, f1, f2, f3, f4, f5, f6, f7] = true) (hC : P.cellsOf t = 8)
    (h : DataW.trod enc P w base spare held fuel t cs = some x) :
    ∃ (v0 v1 v2 v3 v4 v5 v6 v7 : Value) (n : Nat), cs = [v0, v1, v2, v3, v4, v5, v6, v7] ∧ (∃ y, DataW.trod enc P w base spare held n f0.type [v0] = some y) ∧ (∃ y, DataW.trod enc P w base spare held n f1.type [v1] = some y) ∧ (∃ y, DataW.trod enc P w base spare held n f2.type [v2] = some y) ∧ (∃ y, DataW.trod enc P w base spare held n f3.type [v3] = some y) ∧ (∃ y, DataW.trod enc P w base spare held n f4.type [v4] = some y) ∧ (∃ y, DataW.trod enc P w base spare held n f5.type [v5] = some y) ∧ (∃ y, DataW.trod enc P w base spare held n f6.type [v6] = some y) ∧ (∃ y, DataW.trod enc P w base spare held n f7.type [v7] = some y) := by
  obtain ⟨xs, n, _, _, hl, hlen, hf⟩ := DataW.trod_struct hs h
  obtain ⟨v0, v1, v2, v3, v4, v5, v6, v7, rfl⟩ := list8 (hl.trans hC)
  have g : ∀ (i : Nat) (f : Field) (v : Value), #[f0, f1, f2, f3, f4, f5, f6, f7][i]? = some f → [v0, v1, v2, v3, v4, v5, v6, v7][i]? = some v → ∃ y, DataW.trod enc P w base spare held n f.type [v] = some y := by
    intro i f v hi hv
    obtain ⟨o, k⟩ := hone_of hone i f hi
    have hx := hf i f hi
    rw [o, k] at hx
    have e : (List.drop i [v0, v1, v2, v3, v4, v5, v6, v7]).take 1 = [v] := by
      rw [List.take_one, List.head?_drop, hv]; rfl
    rw [e] at hx
    have hi' : i < xs.length := by
      rw [hlen]
      exact (Array.getElem?_eq_some_iff.1 hi).1
    exact ⟨xs[i], by first | (rw [hx]; exact List.getElem?_eq_getElem hi') | (rw [List.getElem?_eq_getElem hi'] at hx; exact hx) | simpa [hi'] using hx⟩
  exact ⟨v0, v1, v2, v3, v4, v5, v6, v7, n, rfl, g 0 f0 v0 rfl rfl, g 1 f1 v1 rfl rfl, g 2 f2 v2 rfl rfl, g 3 f3 v3 rfl rfl, g 4 f4 v4 rfl rfl, g 5 f5 v5 rfl rfl, g 6 f6 v6 rfl rfl, g 7 f7 v7 rfl rfl⟩
end

section
variable {H : Type} {enc : TypeId × Value → H} {W : World}


end

end Go.Proofs.Ytodldamjleehlaa

/- Calls: the helpers of the exact laws, and one that comes in. -/
namespace Go.Proofs.Ytodldamjleehlaa
open Go.RowKit Go.ChangeShapes Go.WideShapes Go.ChangeAt Go.Deep Go.Joins

def CalIn (w : World) (v : Value) (c : Cal) : Prop := ∃ u, v = c.v u ∧ IsIn w u c.uids ∧ c.user.size ≤ 9223372036854775807 ∧ c.box.size ≤ 9223372036854775807 ∧ c.tob.size ≤ 9223372036854775807 ∧ c.text.size ≤ 9223372036854775807
def Cal.small (c : Cal) : Prop := c.user.size ≤ 1048576 ∧ c.box.size ≤ 1048576 ∧ c.tob.size ≤ 1048576 ∧ c.text.size ≤ 1048576 ∧ c.uids.length ≤ 1048576

theorem IsIn.later {w w' : World} {v : Value} {l : List Int} (h : IsIn w v l) (hb : Below w.heap.size w w') : IsIn w' v l := ⟨h.1.later hb, h.2⟩

set_option maxRecDepth 100000 in
set_option maxHeartbeats 1000000 in
theorem szCall_any (c : Cal) (u : Value) (left : Int) (w : World) (h : IsIn w u c.uids) (s1 : c.user.size ≤ 9223372036854775807) (s2 : c.box.size ≤ 9223372036854775807) (s3 : c.tob.size ≤ 9223372036854775807) (s4 : c.text.size ≤ 9223372036854775807) (h0 : 0 ≤ left) (h1 : left ≤ 1048576) :
    Calls Try.prog 4 #[c.v u, .int .i64 left] w fun e w' => (∃ x : Int, e = .returned (.int .i64 x) ∧ (0 ≤ x → c.small) ∧ -1 ≤ x ∧ x ≤ left) ∧ Below w.heap.size w w' := by
  have b0 : Below w.heap.size w (w.alloc (.cells (c.cs u) 24)) := belNew _ _
  have HI := Lib.hid (fun left' => szIntS_any c.uids u left' _ (h.later b0))
  have hx := Box.new w (c.cs u) 24
  obtain ⟨c0, c1, c2, c3, c4, c5, c6, c7⟩ := hx.cal
  clear h hx
  unfold Cal.v
  unfold Cal.cs at b0 HI c0 c1 c2 c3 c4 c5 c6 c7
  unfold Cal.small
  generalize c.uids.length = n at *
  by_cases hA : (c.user.size : Int) ≤ left
  · by_cases hB : (c.box.size : Int) ≤ left - c.user.size
    · by_cases hC : (c.tob.size : Int) ≤ left - c.user.size - c.box.size
      · go_enter Try.func4, Try.ntmps4
        go_wp2_with fail
        refine (HI.out (left - c.user.size - c.box.size - c.tob.size) (by omega) (by omega)).mono ?_
        rintro e w1 ⟨⟨r, rfl, hr, hr2⟩, rfl⟩
        have HR := Lib.hid hr2
        clear hr2
        by_cases hn : r < 0
        · go_wp2
          go_ret
          exact ⟨⟨-1, rfl, fun h => absurd h (by omega), by omega, by omega⟩, b0⟩
        · have hl := HR.out (by omega)
          by_cases hD : (c.text.size : Int) ≤ r
          · have HS : Hid (c.user.size ≤ 1048576 ∧ c.box.size ≤ 1048576 ∧ c.tob.size ≤ 1048576 ∧ c.text.size ≤ 1048576 ∧ n ≤ 1048576) := by refine ⟨?_, ?_, ?_, ?_, ?_⟩ <;> omega
            clear hl
            go_wp2
            go_ret
            exact ⟨⟨_, rfl, fun _ => HS.out, by omega, by omega⟩, b0⟩
          · clear hl
            go_wp2
            go_ret
            exact ⟨⟨-1, rfl, fun h => absurd h (by omega), by omega, by omega⟩, b0⟩
      · go_enter Try.func4, Try.ntmps4
        go_wp2
        go_ret
        exact ⟨⟨-1, rfl, fun h => absurd h (by omega), by omega, by omega⟩, b0⟩
    · go_enter Try.func4, Try.ntmps4
      go_wp2
      go_ret
      exact ⟨⟨-1, rfl, fun h => absurd h (by omega), by omega, by omega⟩, b0⟩
  · go_enter Try.func4, Try.ntmps4
    go_wp2
    go_ret
    exact ⟨⟨-1, rfl, fun h => absurd h (by omega), by omega, by omega⟩, b0⟩

theorem RBuf.asideK {α : Type} {E : Enc α} {B : Nat} {w : World} {v : Value} {l : List α} (h : RBuf E B w w v l) (g i : Nat) (u : Value) (hg : g < B) : RBuf E B (w.setCell ⟨g, i, none⟩ u) (w.setCell ⟨g, i, none⟩ u) v l :=
  h.shift (stored_grown w g i u) (.inr (fun e => by have := (h.own.lt g e).1; omega))

set_option maxRecDepth 100000 in
set_option maxHeartbeats 2000000 in
theorem toCall_any (c : Cal) (u : Value) (w : World) (h : Rows' intE w u c.uids) (hl : c.uids.length ≤ 1048576) :
    Calls Try.prog 6 #[c.v u] w fun e w' => (∃ u', e = .returned (c.v u') ∧ Rows' intE w' u' c.uids) ∧ Below w.heap.size w w' := by
  obtain ⟨k, us, bo, tob, ui, l, fl, tx⟩ := c
  simp only at h hl
  unfold Cal.v
  simp only
  have bA := belNew w (.cells #[.int .i64 k, .string us, .string bo, .string tob, .int .i64 ui, u, .int .i64 fl, .string tx] 24)
  have qA := Box.new w #[.int .i64 k, .string us, .string bo, .string tob, .int .i64 ui, u, .int .i64 fl, .string tx] 24
  obtain ⟨wA, hwA⟩ : ∃ wA, wA = w.alloc (.cells #[.int .i64 k, .string us, .string bo, .string tob, .int .i64 ui, u, .int .i64 fl, .string tx] 24) := ⟨_, rfl⟩
  have eA : wA.heap.size = w.heap.size + 1 := by rw [hwA]; simp
  rw [← hwA] at bA qA
  have hB := Box.new wA #[.int .i64 0, .string ⟨#[]⟩, .string ⟨#[]⟩, .string ⟨#[]⟩, .int .i64 0, .slice none 0 0, .int .i64 0, .string ⟨#[]⟩] 27
  have kB := belNew wA (.cells #[.int .i64 0, .string ⟨#[]⟩, .string ⟨#[]⟩, .string ⟨#[]⟩, .int .i64 0, .slice none 0 0, .int .i64 0, .string ⟨#[]⟩] 27)
  have bB := bA.trans (kB.mono bA.size)
  obtain ⟨wB, hwB⟩ : ∃ wB, wB = wA.alloc (.cells #[.int .i64 0, .string ⟨#[]⟩, .string ⟨#[]⟩, .string ⟨#[]⟩, .int .i64 0, .slice none 0 0, .int .i64 0, .string ⟨#[]⟩] 27) := ⟨_, rfl⟩
  have eB : wB.heap.size = w.heap.size + 1 + 1 := by rw [hwB]; simp; omega
  rw [← hwB] at hB kB bB
  rw [eA] at hB
  have hC := Box.new wB #[.int .i64 k, .string us, .string bo, .string tob, .int .i64 ui, .slice none 0 0, .int .i64 0, .string ⟨#[]⟩] 27
  have kC := belNew wB (.cells #[.int .i64 k, .string us, .string bo, .string tob, .int .i64 ui, .slice none 0 0, .int .i64 0, .string ⟨#[]⟩] 27)
  have bC := bB.trans (kC.mono bB.size)
  obtain ⟨wC, hwC⟩ : ∃ wC, wC = wB.alloc (.cells #[.int .i64 k, .string us, .string bo, .string tob, .int .i64 ui, .slice none 0 0, .int .i64 0, .string ⟨#[]⟩] 27) := ⟨_, rfl⟩
  have eC : wC.heap.size = w.heap.size + 1 + 1 + 1 := by rw [hwC]; simp; omega
  rw [← hwC] at hC kC bC
  rw [eB] at hC
  have hB' := hB.later kC
  have qA' := (qA.later kB).later kC
  have HT := Lib.hid (toIntS_any l u wC (h.later bC) hl)
  have HEC := Lib.hid eC
  have HWC : Hid (wC = ((w.alloc (.cells #[.int .i64 k, .string us, .string bo, .string tob, .int .i64 ui, u, .int .i64 fl, .string tx] 24)).alloc (.cells #[.int .i64 0, .string ⟨#[]⟩, .string ⟨#[]⟩, .string ⟨#[]⟩, .int .i64 0, .slice none 0 0, .int .i64 0, .string ⟨#[]⟩] 27)).alloc (.cells #[.int .i64 k, .string us, .string bo, .string tob, .int .i64 ui, .slice none 0 0, .int .i64 0, .string ⟨#[]⟩] 27)) := by rw [← hwA, ← hwB, ← hwC]; exact rfl
  clear h hl hB bB bA kB kC qA eA eB eC hwA hwB hwC
  go_enter Try.func6, Try.ntmps6
  go_wp2_with fail
  rw [← HWC.out]
  refine HT.out.mono ?_
  rintro e w1 ⟨v1, rfl, R1⟩
  obtain ⟨a, q, rfl⟩ := R1.form
  have A1 := qA'.later R1.bel
  have B1 := hB'.later R1.bel
  have C1 := hC.later R1.bel
  have b1 := bC.trans (R1.bel.mono bC.size)
  obtain ⟨t0, t1, t2, t3, t4, t5, t6, t7, _⟩ := A1.eightL
  obtain ⟨x0, x1, x2, x3, x4, x5, x6, x7, y0, y1, y2, y3, y4, y5, y6, y7⟩ := C1.eightL
  have C2 : Box (((w1.setCell ⟨w.heap.size + 1 + 1, 5, none⟩ (.slice a l.length q)).setCell ⟨w.heap.size + 1 + 1, 6, none⟩ (.int .i64 fl)).setCell ⟨w.heap.size + 1 + 1, 7, none⟩ (.string tx)) (w.heap.size + 1 + 1) #[.int .i64 k, .string us, .string bo, .string tob, .int .i64 ui, .slice a l.length q, .int .i64 fl, .string tx] 27 := ((C1.set 5 _).set 6 _).set 7 _
  have B2 : Box (((w1.setCell ⟨w.heap.size + 1 + 1, 5, none⟩ (.slice a l.length q)).setCell ⟨w.heap.size + 1 + 1, 6, none⟩ (.int .i64 fl)).setCell ⟨w.heap.size + 1 + 1, 7, none⟩ (.string tx)) (w.heap.size + 1) #[.int .i64 0, .string ⟨#[]⟩, .string ⟨#[]⟩, .string ⟨#[]⟩, .int .i64 0, .slice none 0 0, .int .i64 0, .string ⟨#[]⟩] 27 := ((B1.other (by omega) 5 _).other (by omega) 6 _).other (by omega) 7 _
  have hg1 : w.heap.size + 1 + 1 < wC.heap.size := by have := HEC.out; omega
  have R2 := Lib.hid (((R1.here.asideK (w.heap.size + 1 + 1) 5 (.slice a l.length q) hg1).asideK (w.heap.size + 1 + 1) 6 (.int .i64 fl) hg1).asideK (w.heap.size + 1 + 1) 7 (.string tx) hg1)
  have b2 := Lib.hid (((b1.setCell (p := ⟨w.heap.size + 1 + 1, 5, none⟩) (show w.heap.size ≤ w.heap.size + 1 + 1 by omega) (.slice a l.length q)).setCell (p := ⟨w.heap.size + 1 + 1, 6, none⟩) (show w.heap.size ≤ w.heap.size + 1 + 1 by omega) (.int .i64 fl)).setCell (p := ⟨w.heap.size + 1 + 1, 7, none⟩) (show w.heap.size ≤ w.heap.size + 1 + 1 by omega) (.string tx))
  have HG := Lib.hid hg1
  clear hB' hC bC HT HWC HEC A1 B1 C1 b1 R1 hg1 qA'
  go_upto_region 10 with fail
  generalize ((w1.setCell ⟨w.heap.size + 1 + 1, 5, none⟩ (.slice a l.length q)).setCell ⟨w.heap.size + 1 + 1, 6, none⟩ (.int .i64 fl)).setCell ⟨w.heap.size + 1 + 1, 7, none⟩ (.string tx) = w2 at C2 B2 R2 b2 ⊢
  clear t0 t1 t2 t3 t4 t5 t6 t7 x0 x1 x2 x3 x4 x5 x6 x7 y0 y1 y2 y3 y4 y5 y6 y7
  obtain ⟨u0, u1, u2, u3, u4, u5, u6, u7, f0, f1, f2, f3, f4, f5, f6, f7⟩ := B2.eightL
  obtain ⟨x0, x1, x2, x3, x4, x5, x6, x7, _⟩ := C2.eightL
  have L5 : Box (set8L w2 (w.heap.size + 1) (.int .i64 k) (.string us) (.string bo) (.string tob) (.int .i64 ui) (.slice a l.length q) (.int .i64 fl) (.string tx)) (w.heap.size + 1) #[.int .i64 k, .string us, .string bo, .string tob, .int .i64 ui, .slice a l.length q, .int .i64 fl, .string tx] 27 := (((((((B2.set 0 _).set 1 _).set 2 _).set 3 _).set 4 _).set 5 _).set 6 _).set 7 _
  have R5 : Hid (RBuf intE wC.heap.size (set8L w2 (w.heap.size + 1) (.int .i64 k) (.string us) (.string bo) (.string tob) (.int .i64 ui) (.slice a l.length q) (.int .i64 fl) (.string tx)) (set8L w2 (w.heap.size + 1) (.int .i64 k) (.string us) (.string bo) (.string tob) (.int .i64 ui) (.slice a l.length q) (.int .i64 fl) (.string tx)) (.slice a l.length q) l) := by
    have hl : w.heap.size + 1 < wC.heap.size := by have := HG.out; omega
    exact (((((((R2.out.asideK _ 0 _ hl).asideK _ 1 _ hl).asideK _ 2 _ hl).asideK _ 3 _ hl).asideK _ 4 _ hl).asideK _ 5 _ hl).asideK _ 6 _ hl).asideK _ 7 _ hl
  have b5 : Hid (Below w.heap.size w (set8L w2 (w.heap.size + 1) (.int .i64 k) (.string us) (.string bo) (.string tob) (.int .i64 ui) (.slice a l.length q) (.int .i64 fl) (.string tx))) :=
    (((((((b2.out.setCell (p := ⟨w.heap.size + 1, 0, none⟩) (by simp) _).setCell (p := ⟨w.heap.size + 1, 1, none⟩) (by simp) _).setCell (p := ⟨w.heap.size + 1, 2, none⟩) (by simp) _).setCell (p := ⟨w.heap.size + 1, 3, none⟩) (by simp) _).setCell (p := ⟨w.heap.size + 1, 4, none⟩) (by simp) _).setCell (p := ⟨w.heap.size + 1, 5, none⟩) (by simp) _).setCell (p := ⟨w.heap.size + 1, 6, none⟩) (by simp) _).setCell (p := ⟨w.heap.size + 1, 7, none⟩) (by simp) _
  unfold set8L at L5 R5 b5
  obtain ⟨z0, z1, z2, z3, z4, z5, z6, z7, _⟩ := L5.eightL
  clear L5 B2 C2 R2 b2
  go_wp2
  refine bodyPost_ret (v := .agg #[.int .i64 k, .string us, .string bo, .string tob, .int .i64 ui, .slice a l.length q, .int .i64 fl, .string tx]) (by simp [results, Try.results6, go_sem, z0, z1, z2, z3, z4, z5, z6, z7]) rfl ⟨⟨_, rfl, R5.out.rows⟩, b5.out⟩

set_option maxRecDepth 100000 in
set_option maxHeartbeats 1000000 in
theorem eqCall_same (c : Cal) (u1 u2 : Value) (w : World) (h1 : Rows' intE w u1 c.uids) (h2 : Rows' intE w u2 c.uids) (hl : c.uids.length ≤ 1048576) :
    Calls Try.prog 8 #[c.v u1, c.v u2] w fun e w' => e = .returned (.bool true) ∧ Below w.heap.size w w' := by
  obtain ⟨k, us, bo, tob, ui, l, fl, tx⟩ := c
  simp only at h1 h2 hl
  unfold Cal.v
  simp only
  have b0 : Below w.heap.size w ((w.alloc (.cells #[.int .i64 k, .string us, .string bo, .string tob, .int .i64 ui, u1, .int .i64 fl, .string tx] 27)).alloc (.cells #[.int .i64 k, .string us, .string bo, .string tob, .int .i64 ui, u2, .int .i64 fl, .string tx] 27)) := ((Below.refl _ _).alloc (Nat.le_refl _) _).alloc (by simp) _
  have q0 := Box.new w #[.int .i64 k, .string us, .string bo, .string tob, .int .i64 ui, u1, .int .i64 fl, .string tx] 27
  have q1 := Box.new (w.alloc (.cells #[.int .i64 k, .string us, .string bo, .string tob, .int .i64 ui, u1, .int .i64 fl, .string tx] 27)) #[.int .i64 k, .string us, .string bo, .string tob, .int .i64 ui, u2, .int .i64 fl, .string tx] 27
  rw [show (w.alloc (.cells #[.int .i64 k, .string us, .string bo, .string tob, .int .i64 ui, u1, .int .i64 fl, .string tx] 27)).heap.size = w.heap.size + 1 by simp] at q1
  replace q0 := q0.later (belNew _ (.cells #[.int .i64 k, .string us, .string bo, .string tob, .int .i64 ui, u2, .int .i64 fl, .string tx] 27))
  have HG := Lib.hid (eqIntS_same l u1 u2 _ (h1.later b0) (h2.later b0) (by omega))
  clear h1 h2
  go_enter Try.func8, Try.ntmps8
  go_wp2_with fail
  generalize (w.alloc (.cells #[.int .i64 k, .string us, .string bo, .string tob, .int .i64 ui, u1, .int .i64 fl, .string tx] 27)).alloc (.cells #[.int .i64 k, .string us, .string bo, .string tob, .int .i64 ui, u2, .int .i64 fl, .string tx] 27) = W at *
  refine HG.out.mono ?_
  rintro e w1 ⟨rfl, k1⟩
  have b1 := b0.trans (k1.mono b0.size)
  have c6 := (q0.later k1).cell 6 _ rfl
  have c7 := (q0.later k1).cell 7 _ rfl
  have d6 := (q1.later k1).cell 6 _ rfl
  have d7 := (q1.later k1).cell 7 _ rfl
  have HB := Lib.hid b1
  clear q0 q1 b0 b1 k1 HG
  go_wp2
  go_ret
  exact ⟨rfl, HB.out⟩

section
variable {H : Type} {enc : TypeId × Value → H} {W : World}
set_option maxRecDepth 100000 in
theorem open_Call {b0 : Nat} {r : Reach} {v : Value} {d : DataW H} {p : List MemPlace} (hv : Value.okWide Try.prog W r b0 24 v) (h : DataW.Trod enc Try.prog W 0 (fun _ => true) true 24 v d p) : ∃ c : Cal, CalIn W v c := by
  obtain ⟨cs, rfl, hsz⟩ := okWide_struct Try.underlying24 hv
  obtain ⟨fuel, hf⟩ := h
  obtain ⟨l⟩ := cs
  obtain ⟨v0, v1, v2, v3, v4, v5, v6, v7, n, e, ⟨y0, h0⟩, ⟨y1, h1⟩, ⟨y2, h2⟩, ⟨y3, h3⟩, ⟨y4, h4⟩, ⟨y5, h5⟩, ⟨y6, h6⟩, ⟨y7, h7⟩⟩ := trod_eight Try.underlying24 (by kernel_rfl) (by kernel_rfl) hf
  obtain ⟨k0, hk0, _, _⟩ := DataW.trod_int Try.underlying3 h0
  obtain ⟨s1, hk1, _, z1⟩ := DataW.trod_string Try.underlying9 h1
  obtain ⟨s2, hk2, _, z2⟩ := DataW.trod_string Try.underlying9 h2
  obtain ⟨s3, hk3, _, z3⟩ := DataW.trod_string Try.underlying9 h3
  obtain ⟨k4, hk4, _, _⟩ := DataW.trod_int Try.underlying3 h4
  obtain ⟨l5, hl5⟩ := ints_of_trod h5
  obtain ⟨k6, hk6, _, _⟩ := DataW.trod_int Try.underlying3 h6
  obtain ⟨s7, hk7, _, z7⟩ := DataW.trod_string Try.underlying9 h7
  simp [Value.cells] at e hk0 hk1 hk2 hk3 hk4 hk6 hk7
  have hml : maxLen ≤ 9223372036854775807 := by decide
  exact ⟨⟨k0, s1, s2, s3, k4, l5, k6, s7⟩, v5, by rw [e, hk0, hk1, hk2, hk3, hk4, hk6, hk7]; rfl, hl5, Nat.le_trans z1 hml, Nat.le_trans z2 hml, Nat.le_trans z3 hml, Nat.le_trans z7 hml⟩
end

end Go.Proofs.Ytodldamjleehlaa
