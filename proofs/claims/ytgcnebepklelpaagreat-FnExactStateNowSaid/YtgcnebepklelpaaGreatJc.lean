/- Texts of our own, joined. -/
import Derived.Test.YtgcnebepklelpaaGreatJb
import Derived.Test.YtgcnebepklelpaaGreatJa
import Derived.Laws.Concat
import Derived.Lib.Hide
import Derived.Lib.ConvBytes
import Derived.Deep.RegionHeld3
import Derived.Deep.RegionLaw
import Derived.Deep.QuietTactic
import Derived.BigQuiet
import Derived.Deep.Cut
import Derived.WalkKit
import Derived.Laws.BitsAllLaws
import Derived.WalkSpells
import Derived.WalkSmall
import Derived.Shelf.LaysM
import Derived.Shelf.Strconv.Clone
import Derived.Deep.DeepCutAuto
/- Records: what the model's WordOk, RecOk, RecText hand back. -/
namespace Go.Proofs.YtgcnebepklelpaaGreat
open Go.RowKit

def Rc.v (r : Rc) : Value := .agg #[.int .i64 r.kind, .int .i64 r.valid, .int .i64 r.uid, .int .i64 r.next, .int .i64 r.flags, .string r.user, .string r.name, .string r.text]
def Rc.cs (r : Rc) : Array Value := #[.int .i64 r.kind, .int .i64 r.valid, .int .i64 r.uid, .int .i64 r.next, .int .i64 r.flags, .string r.user, .string r.name, .string r.text]

theorem Box.rec {w : World} {b : Nat} {r : Rc} {t : TypeId} (h : Box w b r.cs t) : w.cell? ⟨b, 0, none⟩ = some (.int .i64 r.kind) ∧ w.cell? ⟨b, 1, none⟩ = some (.int .i64 r.valid) ∧ w.cell? ⟨b, 2, none⟩ = some (.int .i64 r.uid) ∧ w.cell? ⟨b, 3, none⟩ = some (.int .i64 r.next) ∧ w.cell? ⟨b, 4, none⟩ = some (.int .i64 r.flags) ∧ w.cell? ⟨b, 5, none⟩ = some (.string r.user) ∧ w.cell? ⟨b, 6, none⟩ = some (.string r.name) ∧ w.cell? ⟨b, 7, none⟩ = some (.string r.text) :=
  ⟨h.cell 0 _ rfl, h.cell 1 _ rfl, h.cell 2 _ rfl, h.cell 3 _ rfl, h.cell 4 _ rfl, h.cell 5 _ rfl, h.cell 6 _ rfl, h.cell 7 _ rfl⟩

theorem index_atW (s : ByteArray) (k : Nat) (h : k < s.size) (wx : World) :
    (Instr.index 9 (.string s) (.int .i64 (k : Int))).run Tryz.prog wx = .ok (.int .u8 (s[k].toNat : Int)) wx := by
  have hu := Tryz.underlying9
  simp [Instr.index, run_underlying hu, go_sem, h]

theorem l01In_yes (n lo hi : Int) (w : World) (h1 : lo ≤ n) (h2 : n ≤ hi) :
    Calls Tryz.prog 56 #[.int .i64 n, .int .i64 lo, .int .i64 hi] w fun e w' => e = .returned (.bool true) ∧ w = w' :=
  (l01In_any n lo hi w).mono fun _ _ h => ⟨by rw [h.1]; simp [h1, h2], h.2.symm⟩
theorem l01In_no (n lo hi : Int) (w : World) (h : ¬ (lo ≤ n ∧ n ≤ hi)) :
    Calls Tryz.prog 56 #[.int .i64 n, .int .i64 lo, .int .i64 hi] w fun e w' => e = .returned (.bool false) ∧ w = w' :=
  (l01In_any n lo hi w).mono fun _ _ h' => ⟨by rw [h'.1]; simp; omega, h'.2.symm⟩

set_option maxRecDepth 100000 in
theorem specWordOk_any (s : ByteArray) (w : World) (hs : s.size ≤ 1099511627776) :
    Calls Tryz.prog 80 #[.string s] w fun e w' => e = .returned (.bool (decide (wdOk s))) ∧ w = w' := by
  go_enter Tryz.func80, Tryz.ntmps80
  go_wp2
  go_loop [3] (fun iv => ∃ i : Nat, i ≤ s.size ∧ iv = .int .i64 (i : Int) ∧ ∀ j (hj : j < s.size), j < i → 97 ≤ s[j].toNat ∧ s[j].toNat ≤ 122) (fun iv => s.size - (intOf iv).toNat)
  case atStart => exact ⟨0, by omega, rfl, fun j _ hj => by omega⟩
  case round =>
    obtain ⟨i, hi, rfl, hall⟩ := hrel
    have HA := Lib.hid hall
    clear hall
    by_cases hlt : i < s.size
    · have hlt' : (i : Int) < (s.size : Int) := by omega
      have hix := index_atW s i hlt
      have HB : Hid (¬ (97 ≤ s[i].toNat ∧ s[i].toNat ≤ 122) → decide (wdOk s) = false) := fun h => decide_eq_false (fun hw => h (hw.2 _ (by
        show s.data[i] ∈ s.data.toList
        exact Array.getElem_mem_toList _)))
      have HN : Hid (97 ≤ s[i].toNat ∧ s[i].toNat ≤ 122 → ∀ j (hj : j < s.size), j < i + 1 → 97 ≤ s[j].toNat ∧ s[j].toNat ≤ 122) := by
        intro h j hj hji
        by_cases e : j = i
        · subst e; exact h
        · exact HA.out j hj (by omega)
      generalize s[i].toNat = c at hix HB HN
      by_cases h1 : c < 97
      · have h1' : (c : Int) < 97 := by omega
        go_wp2
        go_ret
        exact ⟨by rw [HB.out (by omega)]; rfl, rfl⟩
      · have h1' : ¬ (c : Int) < 97 := by omega
        by_cases h2 : 122 < c
        · have h2' : (122 : Int) < (c : Int) := by omega
          go_wp2
          go_ret
          exact ⟨by rw [HB.out (by omega)]; rfl, rfl⟩
        · have h2' : ¬ (122 : Int) < (c : Int) := by omega
          go_wp2
          go_round
          case rel => exact ⟨i + 1, by omega, by go_num, HN.out ⟨by omega, by omega⟩⟩
          case measure => simp [intOf]; omega
    · have hge : ¬ (i : Int) < (s.size : Int) := by omega
      have HE : Hid (decide (wdOk s) = decide (1 ≤ s.size ∧ s.size ≤ 8)) := show _ = _ from decide_eq_decide.2 ⟨fun h => h.1, fun h => ⟨h, fun b hb => by
        obtain ⟨j, hj, rfl⟩ := List.getElem_of_mem hb
        have hj2 : j < s.size := by rw [← tl_len]; exact hj
        exact HA.out j hj2 (by omega)⟩⟩
      by_cases hin : 1 ≤ s.size ∧ s.size ≤ 8
      · go_wp2_with (go_at_call 56; refine (l01In_yes _ _ _ _ (by omega) (by omega)).mono ?_; rintro e w5 ⟨rfl, rfl⟩)
        go_ret
        exact ⟨by rw [HE.out, decide_eq_true hin]; rfl, rfl⟩
      · go_wp2_with (go_at_call 56; refine (l01In_no _ _ _ _ (by omega)).mono ?_; rintro e w5 ⟨rfl, rfl⟩)
        go_ret
        exact ⟨by rw [HE.out, decide_eq_false hin]; rfl, rfl⟩

theorem emp_beq (s : ByteArray) : (s.toList == []) = decide (s = emp) := by
  rw [Go.ByteArray.toList_eq]
  by_cases h : s = emp
  · rw [decide_eq_true h, h]; rfl
  · rw [decide_eq_false h]
    refine beq_eq_false_iff_ne.2 fun e => h ?_
    obtain ⟨⟨l⟩⟩ := s
    simp at e
    rw [e]; rfl

set_option maxRecDepth 100000 in
set_option maxHeartbeats 4000000 in
theorem specRecOk_any (r : Rc) (w : World) (h1 : r.user.size ≤ 1099511627776) (h2 : r.name.size ≤ 1099511627776) (h3 : r.text.size ≤ 1099511627776) :
    Calls Tryz.prog 57 #[r.v] w fun e w' => e = .returned (.bool (decide r.ok)) ∧ Below w.heap.size w w' := by
  have b0 : Below w.heap.size w (w.alloc (.cells r.cs 67)) := (Below.refl _ _).alloc (Nat.le_refl _) _
  have hx := Box.new w r.cs 67
  obtain ⟨c0, c1, c2, c3, c4, c5, c6, c7⟩ := hx.rec
  obtain ⟨kind, valid, uid, next, flags, user, name, text⟩ := r
  unfold Rc.v
  unfold Rc.cs at c0 c1 c2 c3 c4 c5 c6 c7 b0
  simp only at c0 c1 c2 c3 c4 c5 c6 c7 b0 h1 h2 h3 ⊢
  clear hx
  obtain ⟨bu, hbu⟩ : ∃ bu, decide (wdOk user) = bu := ⟨_, rfl⟩
  obtain ⟨bn, hbn⟩ : ∃ bn, decide (wdOk name) = bn := ⟨_, rfl⟩
  obtain ⟨eu, heu⟩ : ∃ eu, decide (user = emp) = eu := ⟨_, rfl⟩
  obtain ⟨en, hen⟩ : ∃ en, decide (name = emp) = en := ⟨_, rfl⟩
  obtain ⟨et, het⟩ : ∃ et, decide (text = emp) = et := ⟨_, rfl⟩
  have qu : (user.toList == []) = eu := by rw [emp_beq, heu]
  have qn : (name.toList == []) = en := by rw [emp_beq, hen]
  have qt : (text.toList == []) = et := by rw [emp_beq, het]
  have HE : Hid (decide (Rc.ok ⟨kind, valid, uid, next, flags, user, name, text⟩) = decide ((1 ≤ kind ∧ kind ≤ 5) ∧ (1 ≤ valid ∧ valid ≤ 9999) ∧ (if kind = 1 then bu = true ∧ bn = true ∧ 1 ≤ next ∧ next ≤ 10000 else eu = true ∧ en = true ∧ next = 0) ∧ (if 3 ≤ kind then 1 ≤ uid ∧ uid ≤ 9999 else uid = 0) ∧ (if kind = 3 ∨ kind = 4 then 0 ≤ flags ∧ flags ≤ 7 else flags = 0) ∧ (if kind = 3 then text.size ≤ 100 else et = true))) := by
    rw [← hbu, ← hbn, ← heu, ← hen, ← het]
    simp only [decide_eq_true_eq]
    exact decide_eq_decide.2 Iff.rfl
  have HU := Lib.hid hbu
  have HN := Lib.hid hbn
  clear hbu hbn heu hen het
  go_enter Tryz.func57, Tryz.ntmps57
  by_cases hk : 1 ≤ kind ∧ kind ≤ 5
  · by_cases hv : 1 ≤ valid ∧ valid ≤ 9999
    · rcases (show kind = 1 ∨ kind = 2 ∨ kind = 3 ∨ kind = 4 ∨ kind = 5 by omega) with rfl | rfl | rfl | rfl | rfl
      · skip
        cases bu
        case false =>
          go_wp2_with (first | (go_at_call 56; first | (refine (l01In_yes _ _ _ _ (by omega) (by omega)).mono ?_; rintro e w5 ⟨rfl, rfl⟩) | (refine (l01In_no _ _ _ _ (by omega)).mono ?_; rintro e w5 ⟨rfl, rfl⟩)) | (go_at_call 80; refine (specWordOk_any _ _ (by first | exact h1 | exact h2)).mono ?_; rintro e w5 ⟨rfl, rfl⟩; first | rw [HU.out] | rw [HN.out]))
          go_ret
          exact ⟨by rw [HE.out, decide_eq_false (by simp)]; rfl, b0⟩
        cases bn
        case false =>
          go_wp2_with (first | (go_at_call 56; first | (refine (l01In_yes _ _ _ _ (by omega) (by omega)).mono ?_; rintro e w5 ⟨rfl, rfl⟩) | (refine (l01In_no _ _ _ _ (by omega)).mono ?_; rintro e w5 ⟨rfl, rfl⟩)) | (go_at_call 80; refine (specWordOk_any _ _ (by first | exact h1 | exact h2)).mono ?_; rintro e w5 ⟨rfl, rfl⟩; first | rw [HU.out] | rw [HN.out]))
          go_ret
          exact ⟨by rw [HE.out, decide_eq_false (by simp)]; rfl, b0⟩
        by_cases hnext : 1 ≤ next ∧ next ≤ 10000
        rotate_left
        · skip
          go_wp2_with (first | (go_at_call 56; first | (refine (l01In_yes _ _ _ _ (by omega) (by omega)).mono ?_; rintro e w5 ⟨rfl, rfl⟩) | (refine (l01In_no _ _ _ _ (by omega)).mono ?_; rintro e w5 ⟨rfl, rfl⟩)) | (go_at_call 80; refine (specWordOk_any _ _ (by first | exact h1 | exact h2)).mono ?_; rintro e w5 ⟨rfl, rfl⟩; first | rw [HU.out] | rw [HN.out]))
          go_ret
          exact ⟨by rw [HE.out, decide_eq_false (by simp; omega)]; rfl, b0⟩
        by_cases huid : uid = 0
        rotate_left
        · have huid' : (uid == 0) = false := beq_eq_false_iff_ne.2 huid
          go_wp2_with (first | (go_at_call 56; first | (refine (l01In_yes _ _ _ _ (by omega) (by omega)).mono ?_; rintro e w5 ⟨rfl, rfl⟩) | (refine (l01In_no _ _ _ _ (by omega)).mono ?_; rintro e w5 ⟨rfl, rfl⟩)) | (go_at_call 80; refine (specWordOk_any _ _ (by first | exact h1 | exact h2)).mono ?_; rintro e w5 ⟨rfl, rfl⟩; first | rw [HU.out] | rw [HN.out]))
          go_ret
          exact ⟨by rw [HE.out, decide_eq_false (by simp [huid])]; rfl, b0⟩
        subst huid
        by_cases hflags : flags = 0
        rotate_left
        · have hflags' : (flags == 0) = false := beq_eq_false_iff_ne.2 hflags
          go_wp2_with (first | (go_at_call 56; first | (refine (l01In_yes _ _ _ _ (by omega) (by omega)).mono ?_; rintro e w5 ⟨rfl, rfl⟩) | (refine (l01In_no _ _ _ _ (by omega)).mono ?_; rintro e w5 ⟨rfl, rfl⟩)) | (go_at_call 80; refine (specWordOk_any _ _ (by first | exact h1 | exact h2)).mono ?_; rintro e w5 ⟨rfl, rfl⟩; first | rw [HU.out] | rw [HN.out]))
          go_ret
          exact ⟨by rw [HE.out, decide_eq_false (by simp [hflags])]; rfl, b0⟩
        subst hflags
        go_wp2_with (first | (go_at_call 56; first | (refine (l01In_yes _ _ _ _ (by omega) (by omega)).mono ?_; rintro e w5 ⟨rfl, rfl⟩) | (refine (l01In_no _ _ _ _ (by omega)).mono ?_; rintro e w5 ⟨rfl, rfl⟩)) | (go_at_call 80; refine (specWordOk_any _ _ (by first | exact h1 | exact h2)).mono ?_; rintro e w5 ⟨rfl, rfl⟩; first | rw [HU.out] | rw [HN.out]))
        go_ret
        exact ⟨by rw [HE.out]; (cases et <;> simp [hv, hnext]), b0⟩
      · skip
        cases eu
        case false =>
          go_wp2_with (first | (go_at_call 56; first | (refine (l01In_yes _ _ _ _ (by omega) (by omega)).mono ?_; rintro e w5 ⟨rfl, rfl⟩) | (refine (l01In_no _ _ _ _ (by omega)).mono ?_; rintro e w5 ⟨rfl, rfl⟩)) | (go_at_call 80; refine (specWordOk_any _ _ (by first | exact h1 | exact h2)).mono ?_; rintro e w5 ⟨rfl, rfl⟩; first | rw [HU.out] | rw [HN.out]))
          go_ret
          exact ⟨by rw [HE.out, decide_eq_false (by simp)]; rfl, b0⟩
        cases en
        case false =>
          go_wp2_with (first | (go_at_call 56; first | (refine (l01In_yes _ _ _ _ (by omega) (by omega)).mono ?_; rintro e w5 ⟨rfl, rfl⟩) | (refine (l01In_no _ _ _ _ (by omega)).mono ?_; rintro e w5 ⟨rfl, rfl⟩)) | (go_at_call 80; refine (specWordOk_any _ _ (by first | exact h1 | exact h2)).mono ?_; rintro e w5 ⟨rfl, rfl⟩; first | rw [HU.out] | rw [HN.out]))
          go_ret
          exact ⟨by rw [HE.out, decide_eq_false (by simp)]; rfl, b0⟩
        by_cases hnext : next = 0
        rotate_left
        · have hnext' : (next == 0) = false := beq_eq_false_iff_ne.2 hnext
          go_wp2_with (first | (go_at_call 56; first | (refine (l01In_yes _ _ _ _ (by omega) (by omega)).mono ?_; rintro e w5 ⟨rfl, rfl⟩) | (refine (l01In_no _ _ _ _ (by omega)).mono ?_; rintro e w5 ⟨rfl, rfl⟩)) | (go_at_call 80; refine (specWordOk_any _ _ (by first | exact h1 | exact h2)).mono ?_; rintro e w5 ⟨rfl, rfl⟩; first | rw [HU.out] | rw [HN.out]))
          go_ret
          exact ⟨by rw [HE.out, decide_eq_false (by simp [hnext])]; rfl, b0⟩
        subst hnext
        by_cases huid : uid = 0
        rotate_left
        · have huid' : (uid == 0) = false := beq_eq_false_iff_ne.2 huid
          go_wp2_with (first | (go_at_call 56; first | (refine (l01In_yes _ _ _ _ (by omega) (by omega)).mono ?_; rintro e w5 ⟨rfl, rfl⟩) | (refine (l01In_no _ _ _ _ (by omega)).mono ?_; rintro e w5 ⟨rfl, rfl⟩)) | (go_at_call 80; refine (specWordOk_any _ _ (by first | exact h1 | exact h2)).mono ?_; rintro e w5 ⟨rfl, rfl⟩; first | rw [HU.out] | rw [HN.out]))
          go_ret
          exact ⟨by rw [HE.out, decide_eq_false (by simp [huid])]; rfl, b0⟩
        subst huid
        by_cases hflags : flags = 0
        rotate_left
        · have hflags' : (flags == 0) = false := beq_eq_false_iff_ne.2 hflags
          go_wp2_with (first | (go_at_call 56; first | (refine (l01In_yes _ _ _ _ (by omega) (by omega)).mono ?_; rintro e w5 ⟨rfl, rfl⟩) | (refine (l01In_no _ _ _ _ (by omega)).mono ?_; rintro e w5 ⟨rfl, rfl⟩)) | (go_at_call 80; refine (specWordOk_any _ _ (by first | exact h1 | exact h2)).mono ?_; rintro e w5 ⟨rfl, rfl⟩; first | rw [HU.out] | rw [HN.out]))
          go_ret
          exact ⟨by rw [HE.out, decide_eq_false (by simp [hflags])]; rfl, b0⟩
        subst hflags
        go_wp2_with (first | (go_at_call 56; first | (refine (l01In_yes _ _ _ _ (by omega) (by omega)).mono ?_; rintro e w5 ⟨rfl, rfl⟩) | (refine (l01In_no _ _ _ _ (by omega)).mono ?_; rintro e w5 ⟨rfl, rfl⟩)) | (go_at_call 80; refine (specWordOk_any _ _ (by first | exact h1 | exact h2)).mono ?_; rintro e w5 ⟨rfl, rfl⟩; first | rw [HU.out] | rw [HN.out]))
        go_ret
        exact ⟨by rw [HE.out]; (cases et <;> simp [hv]), b0⟩
      · skip
        cases eu
        case false =>
          go_wp2_with (first | (go_at_call 56; first | (refine (l01In_yes _ _ _ _ (by omega) (by omega)).mono ?_; rintro e w5 ⟨rfl, rfl⟩) | (refine (l01In_no _ _ _ _ (by omega)).mono ?_; rintro e w5 ⟨rfl, rfl⟩)) | (go_at_call 80; refine (specWordOk_any _ _ (by first | exact h1 | exact h2)).mono ?_; rintro e w5 ⟨rfl, rfl⟩; first | rw [HU.out] | rw [HN.out]))
          go_ret
          exact ⟨by rw [HE.out, decide_eq_false (by simp)]; rfl, b0⟩
        cases en
        case false =>
          go_wp2_with (first | (go_at_call 56; first | (refine (l01In_yes _ _ _ _ (by omega) (by omega)).mono ?_; rintro e w5 ⟨rfl, rfl⟩) | (refine (l01In_no _ _ _ _ (by omega)).mono ?_; rintro e w5 ⟨rfl, rfl⟩)) | (go_at_call 80; refine (specWordOk_any _ _ (by first | exact h1 | exact h2)).mono ?_; rintro e w5 ⟨rfl, rfl⟩; first | rw [HU.out] | rw [HN.out]))
          go_ret
          exact ⟨by rw [HE.out, decide_eq_false (by simp)]; rfl, b0⟩
        by_cases hnext : next = 0
        rotate_left
        · have hnext' : (next == 0) = false := beq_eq_false_iff_ne.2 hnext
          go_wp2_with (first | (go_at_call 56; first | (refine (l01In_yes _ _ _ _ (by omega) (by omega)).mono ?_; rintro e w5 ⟨rfl, rfl⟩) | (refine (l01In_no _ _ _ _ (by omega)).mono ?_; rintro e w5 ⟨rfl, rfl⟩)) | (go_at_call 80; refine (specWordOk_any _ _ (by first | exact h1 | exact h2)).mono ?_; rintro e w5 ⟨rfl, rfl⟩; first | rw [HU.out] | rw [HN.out]))
          go_ret
          exact ⟨by rw [HE.out, decide_eq_false (by simp [hnext])]; rfl, b0⟩
        subst hnext
        by_cases huid : 1 ≤ uid ∧ uid ≤ 9999
        rotate_left
        · skip
          go_wp2_with (first | (go_at_call 56; first | (refine (l01In_yes _ _ _ _ (by omega) (by omega)).mono ?_; rintro e w5 ⟨rfl, rfl⟩) | (refine (l01In_no _ _ _ _ (by omega)).mono ?_; rintro e w5 ⟨rfl, rfl⟩)) | (go_at_call 80; refine (specWordOk_any _ _ (by first | exact h1 | exact h2)).mono ?_; rintro e w5 ⟨rfl, rfl⟩; first | rw [HU.out] | rw [HN.out]))
          go_ret
          exact ⟨by rw [HE.out, decide_eq_false (by simp; omega)]; rfl, b0⟩
        by_cases hflags : 0 ≤ flags ∧ flags ≤ 7
        rotate_left
        · skip
          go_wp2_with (first | (go_at_call 56; first | (refine (l01In_yes _ _ _ _ (by omega) (by omega)).mono ?_; rintro e w5 ⟨rfl, rfl⟩) | (refine (l01In_no _ _ _ _ (by omega)).mono ?_; rintro e w5 ⟨rfl, rfl⟩)) | (go_at_call 80; refine (specWordOk_any _ _ (by first | exact h1 | exact h2)).mono ?_; rintro e w5 ⟨rfl, rfl⟩; first | rw [HU.out] | rw [HN.out]))
          go_ret
          exact ⟨by rw [HE.out, decide_eq_false (by simp; omega)]; rfl, b0⟩
        go_wp2_with (first | (go_at_call 56; first | (refine (l01In_yes _ _ _ _ (by omega) (by omega)).mono ?_; rintro e w5 ⟨rfl, rfl⟩) | (refine (l01In_no _ _ _ _ (by omega)).mono ?_; rintro e w5 ⟨rfl, rfl⟩)) | (go_at_call 80; refine (specWordOk_any _ _ (by first | exact h1 | exact h2)).mono ?_; rintro e w5 ⟨rfl, rfl⟩; first | rw [HU.out] | rw [HN.out]))
        go_ret
        exact ⟨by rw [HE.out]; (simp [hv, huid, hflags]; omega), b0⟩
      · skip
        cases eu
        case false =>
          go_wp2_with (first | (go_at_call 56; first | (refine (l01In_yes _ _ _ _ (by omega) (by omega)).mono ?_; rintro e w5 ⟨rfl, rfl⟩) | (refine (l01In_no _ _ _ _ (by omega)).mono ?_; rintro e w5 ⟨rfl, rfl⟩)) | (go_at_call 80; refine (specWordOk_any _ _ (by first | exact h1 | exact h2)).mono ?_; rintro e w5 ⟨rfl, rfl⟩; first | rw [HU.out] | rw [HN.out]))
          go_ret
          exact ⟨by rw [HE.out, decide_eq_false (by simp)]; rfl, b0⟩
        cases en
        case false =>
          go_wp2_with (first | (go_at_call 56; first | (refine (l01In_yes _ _ _ _ (by omega) (by omega)).mono ?_; rintro e w5 ⟨rfl, rfl⟩) | (refine (l01In_no _ _ _ _ (by omega)).mono ?_; rintro e w5 ⟨rfl, rfl⟩)) | (go_at_call 80; refine (specWordOk_any _ _ (by first | exact h1 | exact h2)).mono ?_; rintro e w5 ⟨rfl, rfl⟩; first | rw [HU.out] | rw [HN.out]))
          go_ret
          exact ⟨by rw [HE.out, decide_eq_false (by simp)]; rfl, b0⟩
        by_cases hnext : next = 0
        rotate_left
        · have hnext' : (next == 0) = false := beq_eq_false_iff_ne.2 hnext
          go_wp2_with (first | (go_at_call 56; first | (refine (l01In_yes _ _ _ _ (by omega) (by omega)).mono ?_; rintro e w5 ⟨rfl, rfl⟩) | (refine (l01In_no _ _ _ _ (by omega)).mono ?_; rintro e w5 ⟨rfl, rfl⟩)) | (go_at_call 80; refine (specWordOk_any _ _ (by first | exact h1 | exact h2)).mono ?_; rintro e w5 ⟨rfl, rfl⟩; first | rw [HU.out] | rw [HN.out]))
          go_ret
          exact ⟨by rw [HE.out, decide_eq_false (by simp [hnext])]; rfl, b0⟩
        subst hnext
        by_cases huid : 1 ≤ uid ∧ uid ≤ 9999
        rotate_left
        · skip
          go_wp2_with (first | (go_at_call 56; first | (refine (l01In_yes _ _ _ _ (by omega) (by omega)).mono ?_; rintro e w5 ⟨rfl, rfl⟩) | (refine (l01In_no _ _ _ _ (by omega)).mono ?_; rintro e w5 ⟨rfl, rfl⟩)) | (go_at_call 80; refine (specWordOk_any _ _ (by first | exact h1 | exact h2)).mono ?_; rintro e w5 ⟨rfl, rfl⟩; first | rw [HU.out] | rw [HN.out]))
          go_ret
          exact ⟨by rw [HE.out, decide_eq_false (by simp; omega)]; rfl, b0⟩
        by_cases hflags : 0 ≤ flags ∧ flags ≤ 7
        rotate_left
        · skip
          go_wp2_with (first | (go_at_call 56; first | (refine (l01In_yes _ _ _ _ (by omega) (by omega)).mono ?_; rintro e w5 ⟨rfl, rfl⟩) | (refine (l01In_no _ _ _ _ (by omega)).mono ?_; rintro e w5 ⟨rfl, rfl⟩)) | (go_at_call 80; refine (specWordOk_any _ _ (by first | exact h1 | exact h2)).mono ?_; rintro e w5 ⟨rfl, rfl⟩; first | rw [HU.out] | rw [HN.out]))
          go_ret
          exact ⟨by rw [HE.out, decide_eq_false (by simp; omega)]; rfl, b0⟩
        go_wp2_with (first | (go_at_call 56; first | (refine (l01In_yes _ _ _ _ (by omega) (by omega)).mono ?_; rintro e w5 ⟨rfl, rfl⟩) | (refine (l01In_no _ _ _ _ (by omega)).mono ?_; rintro e w5 ⟨rfl, rfl⟩)) | (go_at_call 80; refine (specWordOk_any _ _ (by first | exact h1 | exact h2)).mono ?_; rintro e w5 ⟨rfl, rfl⟩; first | rw [HU.out] | rw [HN.out]))
        go_ret
        exact ⟨by rw [HE.out]; (cases et <;> simp [hv, huid, hflags]), b0⟩
      · skip
        cases eu
        case false =>
          go_wp2_with (first | (go_at_call 56; first | (refine (l01In_yes _ _ _ _ (by omega) (by omega)).mono ?_; rintro e w5 ⟨rfl, rfl⟩) | (refine (l01In_no _ _ _ _ (by omega)).mono ?_; rintro e w5 ⟨rfl, rfl⟩)) | (go_at_call 80; refine (specWordOk_any _ _ (by first | exact h1 | exact h2)).mono ?_; rintro e w5 ⟨rfl, rfl⟩; first | rw [HU.out] | rw [HN.out]))
          go_ret
          exact ⟨by rw [HE.out, decide_eq_false (by simp)]; rfl, b0⟩
        cases en
        case false =>
          go_wp2_with (first | (go_at_call 56; first | (refine (l01In_yes _ _ _ _ (by omega) (by omega)).mono ?_; rintro e w5 ⟨rfl, rfl⟩) | (refine (l01In_no _ _ _ _ (by omega)).mono ?_; rintro e w5 ⟨rfl, rfl⟩)) | (go_at_call 80; refine (specWordOk_any _ _ (by first | exact h1 | exact h2)).mono ?_; rintro e w5 ⟨rfl, rfl⟩; first | rw [HU.out] | rw [HN.out]))
          go_ret
          exact ⟨by rw [HE.out, decide_eq_false (by simp)]; rfl, b0⟩
        by_cases hnext : next = 0
        rotate_left
        · have hnext' : (next == 0) = false := beq_eq_false_iff_ne.2 hnext
          go_wp2_with (first | (go_at_call 56; first | (refine (l01In_yes _ _ _ _ (by omega) (by omega)).mono ?_; rintro e w5 ⟨rfl, rfl⟩) | (refine (l01In_no _ _ _ _ (by omega)).mono ?_; rintro e w5 ⟨rfl, rfl⟩)) | (go_at_call 80; refine (specWordOk_any _ _ (by first | exact h1 | exact h2)).mono ?_; rintro e w5 ⟨rfl, rfl⟩; first | rw [HU.out] | rw [HN.out]))
          go_ret
          exact ⟨by rw [HE.out, decide_eq_false (by simp [hnext])]; rfl, b0⟩
        subst hnext
        by_cases huid : 1 ≤ uid ∧ uid ≤ 9999
        rotate_left
        · skip
          go_wp2_with (first | (go_at_call 56; first | (refine (l01In_yes _ _ _ _ (by omega) (by omega)).mono ?_; rintro e w5 ⟨rfl, rfl⟩) | (refine (l01In_no _ _ _ _ (by omega)).mono ?_; rintro e w5 ⟨rfl, rfl⟩)) | (go_at_call 80; refine (specWordOk_any _ _ (by first | exact h1 | exact h2)).mono ?_; rintro e w5 ⟨rfl, rfl⟩; first | rw [HU.out] | rw [HN.out]))
          go_ret
          exact ⟨by rw [HE.out, decide_eq_false (by simp; omega)]; rfl, b0⟩
        by_cases hflags : flags = 0
        rotate_left
        · have hflags' : (flags == 0) = false := beq_eq_false_iff_ne.2 hflags
          go_wp2_with (first | (go_at_call 56; first | (refine (l01In_yes _ _ _ _ (by omega) (by omega)).mono ?_; rintro e w5 ⟨rfl, rfl⟩) | (refine (l01In_no _ _ _ _ (by omega)).mono ?_; rintro e w5 ⟨rfl, rfl⟩)) | (go_at_call 80; refine (specWordOk_any _ _ (by first | exact h1 | exact h2)).mono ?_; rintro e w5 ⟨rfl, rfl⟩; first | rw [HU.out] | rw [HN.out]))
          go_ret
          exact ⟨by rw [HE.out, decide_eq_false (by simp [hflags])]; rfl, b0⟩
        subst hflags
        go_wp2_with (first | (go_at_call 56; first | (refine (l01In_yes _ _ _ _ (by omega) (by omega)).mono ?_; rintro e w5 ⟨rfl, rfl⟩) | (refine (l01In_no _ _ _ _ (by omega)).mono ?_; rintro e w5 ⟨rfl, rfl⟩)) | (go_at_call 80; refine (specWordOk_any _ _ (by first | exact h1 | exact h2)).mono ?_; rintro e w5 ⟨rfl, rfl⟩; first | rw [HU.out] | rw [HN.out]))
        go_ret
        exact ⟨by rw [HE.out]; (cases et <;> simp [hv, huid]), b0⟩
    · go_wp2_with (go_at_call 56; first | (refine (l01In_yes _ _ _ _ (by omega) (by omega)).mono ?_; rintro e w5 ⟨rfl, rfl⟩) | (refine (l01In_no _ _ _ _ (by omega)).mono ?_; rintro e w5 ⟨rfl, rfl⟩))
      go_ret
      exact ⟨by rw [HE.out, decide_eq_false (fun h => hv h.2.1)]; rfl, b0⟩
  · go_wp2_with (go_at_call 56; refine (l01In_no _ _ _ _ (by omega)).mono ?_; rintro e w5 ⟨rfl, rfl⟩)
    go_ret
    exact ⟨by rw [HE.out, decide_eq_false (fun h => hk h.1)]; rfl, b0⟩

end Go.Proofs.YtgcnebepklelpaaGreat

/- Records: what the model's RecText hands back. -/
namespace Go.Proofs.YtgcnebepklelpaaGreat
open Go.RowKit

theorem belNew (x : World) (o : Obj) : Below x.heap.size x (x.alloc o) := (Below.refl _ _).alloc (Nat.le_refl _) _
theorem below_next {W x y : World} (h : Below W.heap.size W x) (hb : Below x.heap.size x y) : Below W.heap.size W y := h.trans (hb.mono h.size)

theorem takeL {P : Program} {md : Region.Mode} {l : List Oper} {Q : Exit → Act → World → Prop} {S : World → Prop} {i : Nat} {oi : Oper} {v : Value} {fuel : Nat} {listed : Array Bool} {a : Act} {w : World} (hi : l[i]? = some oi)
    (hs : Region.noSelect l.toArray = true) (hf : Region.free md l.toArray listed i = true) (hr : (Region.ready md l.toArray listed).contains i = true)
    (hQ : ∀ c a w, Q (.panic c) (a.put oi.dst v) w → Q (.panic c) a w) (hy : YieldsIf P l.toArray S oi v a) (hS : S w)
    (h : wpAnyH P md l.toArray Q S fuel (listed.setIfInBounds i true) (a.put oi.dst v) w) : wpAnyH P md l.toArray Q S (fuel + 1) listed a w :=
  wpAnyH_take (by rw [List.getElem?_toArray]; exact hi) hs hf hr hQ hy hS h
theorem readyOne {P : Program} {md : Region.Mode} {l : List Oper} {Q : Exit → Act → World → Prop} {S : World → Prop} {i : Nat} {o : Oper} {fuel : Nat} {listed : Array Bool} {a : Act} {w : World} (hi : l[i]? = some o)
    (h : ∀ K' : Act → World → Prop, Shut (∀ a w, S w → (S w → wpAnyH P md l.toArray Q S fuel (listed.setIfInBounds i true) a w) → K' a w) → if Region.wanted o (yielded l.toArray a.tmps) = true then Oper.wp P o a w K' Q else K' (a.put o.dst undef) w) :
    AllReadyH P md l.toArray Q S fuel listed a w [i] :=
  AllReadyH.cons (by rw [List.getElem?_toArray]; exact hi) h AllReadyH.nil
theorem readyTwo {P : Program} {md : Region.Mode} {l : List Oper} {Q : Exit → Act → World → Prop} {S : World → Prop} {i j : Nat} {o o' : Oper} {fuel : Nat} {listed : Array Bool} {a : Act} {w : World} (hi : l[i]? = some o) (hj : l[j]? = some o')
    (h : ∀ K' : Act → World → Prop, Shut (∀ a w, S w → (S w → wpAnyH P md l.toArray Q S fuel (listed.setIfInBounds i true) a w) → K' a w) → if Region.wanted o (yielded l.toArray a.tmps) = true then Oper.wp P o a w K' Q else K' (a.put o.dst undef) w)
    (h' : ∀ K' : Act → World → Prop, Shut (∀ a w, S w → (S w → wpAnyH P md l.toArray Q S fuel (listed.setIfInBounds j true) a w) → K' a w) → if Region.wanted o' (yielded l.toArray a.tmps) = true then Oper.wp P o' a w K' Q else K' (a.put o'.dst undef) w) :
    AllReadyH P md l.toArray Q S fuel listed a w [i, j] :=
  AllReadyH.cons (by rw [List.getElem?_toArray]; exact hi) h (readyOne hj h')
theorem belNew0 (x : World) (o : Obj) : Below x.heap.size x (x.alloc o).drew := ((Below.refl _ _).alloc (Nat.le_refl _) _).drew
end Go.Proofs.YtgcnebepklelpaaGreat

/- Plain facts on bits, as the walk spells them: groups of seven bits put together. -/
namespace Go.Proofs.YtgcnebepklelpaaGreat
open Go.RowKit

end Go.Proofs.YtgcnebepklelpaaGreat

/- Reading a number: what impl.readGroups, impl.ReadVar and spec.ReadVar hand back. -/
namespace Go.Proofs.YtgcnebepklelpaaGreat
open Go.RowKit

end Go.Proofs.YtgcnebepklelpaaGreat

/- Reading a number: what impl.ReadVar and spec.ReadVar hand back. -/
namespace Go.Proofs.YtgcnebepklelpaaGreat
open Go.RowKit

end Go.Proofs.YtgcnebepklelpaaGreat

/- strings.Clone hands back the same bytes and changes nothing that was there: out of the library's own theorem on internal/stringslite.Clone, at the numbers of this program. -/
namespace Go.Proofs.YtgcnebepklelpaaGreat
open Go.Shelf Go.RowKit

def cloneRen : Go.Shelf.Ren := ⟨fun | 316 => 87 | n => n, fun | 9 => 9 | 3 => 3 | 4 => 4 | 37 => 131 | 0 => 0 | 127 => 181 | 5 => 5 | n => n, fun | n => n⟩

theorem cloneLaid : Go.Proofs.LaysM.n316 Tryz.prog cloneRen := {
  mixed := by kernel_rfl
  f316 := Tryz.func87.trans (congrArg some (by kernel_rfl))
  t0 := Tryz.underlying0
  a0 := Tryz.isAgg0
  z0 := Tryz.sizeOf0
  v0 := Tryz.zeroValue0
  t3 := Tryz.underlying3
  a3 := Tryz.isAgg3
  z3 := Tryz.sizeOf3
  v3 := Tryz.zeroValue3
  t4 := Tryz.underlying4
  a4 := Tryz.isAgg4
  z4 := Tryz.sizeOf4
  v4 := Tryz.zeroValue4
  t9 := Tryz.underlying9
  a9 := Tryz.isAgg9
  z9 := Tryz.sizeOf9
  v9 := Tryz.zeroValue9
  t37 := Tryz.underlying131
  a37 := Tryz.isAgg131
  z37 := Tryz.sizeOf131
  v37 := Tryz.zeroValue131
  t127 := Tryz.underlying181
  a127 := Tryz.isAgg181
  z127 := Tryz.sizeOf181
  v127 := Tryz.zeroValue181
  t5 := Tryz.underlying5
  a5 := Tryz.isAgg5
  z5 := Tryz.sizeOf5
  v5 := Tryz.zeroValue5
  i0 := by kernel_rfl
  i3 := by kernel_rfl
  i4 := by kernel_rfl
  i5 := by kernel_rfl
  i9 := by kernel_rfl
  i37 := by kernel_rfl
  i127 := by kernel_rfl }

theorem innerClone_any (s : ByteArray) (w : World) (hlim : s.size ≤ 281474976710656) :
    Calls Tryz.prog 87 #[.string s] w fun e w' => e = .returned (.string s) ∧ Below w.heap.size w w' := Any.stringslite_Clone cloneLaid s w hlim

theorem clone_any (s : ByteArray) (w : World) (hlim : s.size ≤ 281474976710656) :
    Calls Tryz.prog 64 #[.string s] w fun e w' => e = .returned (.string s) ∧ Below w.heap.size w w' := by
  go_enter Tryz.func64, Tryz.ntmps64
  go_wp2_with (go_at_call 87; refine (innerClone_any _ _ hlim).mono ?_; rintro e w1 ⟨rfl, hb1⟩)
  go_ret
  exact ⟨rfl, hb1⟩

end Go.Proofs.YtgcnebepklelpaaGreat

/- A text behind its length, and read back: what ShortText and ReadShort hand back. -/
namespace Go.Proofs.YtgcnebepklelpaaGreat
open Go.RowKit

end Go.Proofs.YtgcnebepklelpaaGreat

/- Records: the model's reader of a text. -/
namespace Go.Proofs.YtgcnebepklelpaaGreat
open Go.RowKit

end Go.Proofs.YtgcnebepklelpaaGreat

/- Records: what the model's ReadRec hands back. -/
namespace Go.Proofs.YtgcnebepklelpaaGreat
open Go.RowKit

def Rc.nil : Rc := ⟨0, 0, 0, 0, 0, emp, emp, emp⟩
def set8 (w : World) (b : Nat) (v0 v1 v2 v3 v4 v5 v6 v7 : Value) : World := (((((((w.setCell ⟨b, 0, none⟩ v0).setCell ⟨b, 1, none⟩ v1).setCell ⟨b, 2, none⟩ v2).setCell ⟨b, 3, none⟩ v3).setCell ⟨b, 4, none⟩ v4).setCell ⟨b, 5, none⟩ v5).setCell ⟨b, 6, none⟩ v6).setCell ⟨b, 7, none⟩ v7
theorem Box.set8 {w : World} {b : Nat} {u0 u1 u2 u3 u4 u5 u6 u7 : Value} {t : TypeId} (h : Box w b #[u0, u1, u2, u3, u4, u5, u6, u7] t) (v0 v1 v2 v3 v4 v5 v6 v7 : Value) : Box (set8 w b v0 v1 v2 v3 v4 v5 v6 v7) b #[v0, v1, v2, v3, v4, v5, v6, v7] t :=
  have a0 : Box (w.setCell ⟨b, 0, none⟩ v0) b #[v0, u1, u2, u3, u4, u5, u6, u7] t := h.set 0 v0
  have a1 : Box ((w.setCell ⟨b, 0, none⟩ v0).setCell ⟨b, 1, none⟩ v1) b #[v0, v1, u2, u3, u4, u5, u6, u7] t := a0.set 1 v1
  have a2 : Box (((w.setCell ⟨b, 0, none⟩ v0).setCell ⟨b, 1, none⟩ v1).setCell ⟨b, 2, none⟩ v2) b #[v0, v1, v2, u3, u4, u5, u6, u7] t := a1.set 2 v2
  have a3 : Box ((((w.setCell ⟨b, 0, none⟩ v0).setCell ⟨b, 1, none⟩ v1).setCell ⟨b, 2, none⟩ v2).setCell ⟨b, 3, none⟩ v3) b #[v0, v1, v2, v3, u4, u5, u6, u7] t := a2.set 3 v3
  have a4 : Box (((((w.setCell ⟨b, 0, none⟩ v0).setCell ⟨b, 1, none⟩ v1).setCell ⟨b, 2, none⟩ v2).setCell ⟨b, 3, none⟩ v3).setCell ⟨b, 4, none⟩ v4) b #[v0, v1, v2, v3, v4, u5, u6, u7] t := a3.set 4 v4
  have a5 : Box ((((((w.setCell ⟨b, 0, none⟩ v0).setCell ⟨b, 1, none⟩ v1).setCell ⟨b, 2, none⟩ v2).setCell ⟨b, 3, none⟩ v3).setCell ⟨b, 4, none⟩ v4).setCell ⟨b, 5, none⟩ v5) b #[v0, v1, v2, v3, v4, v5, u6, u7] t := a4.set 5 v5
  have a6 : Box (((((((w.setCell ⟨b, 0, none⟩ v0).setCell ⟨b, 1, none⟩ v1).setCell ⟨b, 2, none⟩ v2).setCell ⟨b, 3, none⟩ v3).setCell ⟨b, 4, none⟩ v4).setCell ⟨b, 5, none⟩ v5).setCell ⟨b, 6, none⟩ v6) b #[v0, v1, v2, v3, v4, v5, v6, u7] t := a5.set 6 v6
  a6.set 7 v7
theorem below_set8 {B b : Nat} {w0 w : World} (h : Below B w0 w) (hb : B ≤ b) (v0 v1 v2 v3 v4 v5 v6 v7 : Value) : Below B w0 (set8 w b v0 v1 v2 v3 v4 v5 v6 v7) :=
  (((((((h.setCell (p := ⟨b, 0, none⟩) hb v0).setCell (p := ⟨b, 1, none⟩) hb v1).setCell (p := ⟨b, 2, none⟩) hb v2).setCell (p := ⟨b, 3, none⟩) hb v3).setCell (p := ⟨b, 4, none⟩) hb v4).setCell (p := ⟨b, 5, none⟩) hb v5).setCell (p := ⟨b, 6, none⟩) hb v6).setCell (p := ⟨b, 7, none⟩) hb v7
theorem grown_set8 (w : World) (b : Nat) (v0 v1 v2 v3 v4 v5 v6 v7 : Value) : w.grownBy (set8 w b v0 v1 v2 v3 v4 v5 v6 v7) (some b) :=
  (((((((stored_grown w b 0 v0).trans (stored_grown _ b 1 v1)).trans (stored_grown _ b 2 v2)).trans (stored_grown _ b 3 v3)).trans (stored_grown _ b 4 v4)).trans (stored_grown _ b 5 v5)).trans (stored_grown _ b 6 v6)).trans (stored_grown _ b 7 v7)
theorem Box.but {w X : World} {b g : Nat} {cs : Array Value} {t : TypeId} (h : Box w b cs t) (hg : w.grownBy X (some g)) (hne : b ≠ g) : Box X b cs t := (hg.block b h.lt (fun e => hne (Option.some.inj e))).trans h
theorem Box.eight {w : World} {b : Nat} {u0 u1 u2 u3 u4 u5 u6 u7 : Value} {t : TypeId} (h : Box w b #[u0, u1, u2, u3, u4, u5, u6, u7] t) :
    w.cell? ⟨b, 0, none⟩ = some u0 ∧ w.cell? ⟨b, 1, none⟩ = some u1 ∧ w.cell? ⟨b, 2, none⟩ = some u2 ∧ w.cell? ⟨b, 3, none⟩ = some u3 ∧ w.cell? ⟨b, 4, none⟩ = some u4 ∧ w.cell? ⟨b, 5, none⟩ = some u5 ∧ w.cell? ⟨b, 6, none⟩ = some u6 ∧ w.cell? ⟨b, 7, none⟩ = some u7 ∧
    w.frozen? ⟨b, 0, none⟩ = false ∧ w.frozen? ⟨b, 1, none⟩ = false ∧ w.frozen? ⟨b, 2, none⟩ = false ∧ w.frozen? ⟨b, 3, none⟩ = false ∧ w.frozen? ⟨b, 4, none⟩ = false ∧ w.frozen? ⟨b, 5, none⟩ = false ∧ w.frozen? ⟨b, 6, none⟩ = false ∧ w.frozen? ⟨b, 7, none⟩ = false :=
  ⟨h.cell 0 _ rfl, h.cell 1 _ rfl, h.cell 2 _ rfl, h.cell 3 _ rfl, h.cell 4 _ rfl, h.cell 5 _ rfl, h.cell 6 _ rfl, h.cell 7 _ rfl, h.loose 0, h.loose 1, h.loose 2, h.loose 3, h.loose 4, h.loose 5, h.loose 6, h.loose 7⟩


theorem ba_beq (a b : ByteArray) : (a.toList == b.toList) = decide (a = b) := by
  by_cases h : a = b
  · simp [h]
  · have : ¬ a.toList = b.toList := fun e => h (by rw [Go.ByteArray.toList_eq, Go.ByteArray.toList_eq] at e; obtain ⟨⟨x⟩⟩ := a; obtain ⟨⟨y⟩⟩ := b; simp only at e; rw [e])
    rw [decide_eq_false h]
    simp [this]

end Go.Proofs.YtgcnebepklelpaaGreat

/- Frames: what FrameOk hands back, of the model and of the program. -/
namespace Go.Proofs.YtgcnebepklelpaaGreat
open Go.RowKit

def Fr.v (f : Fr) : Value := .agg #[.int .i64 f.gen, .int .i64 f.seq, .string f.body]
def Fr.numOk (n : Int) : Prop := 1 ≤ n ∧ n ≤ 1000000000
instance (n : Int) : Decidable (Fr.numOk n) := by unfold Fr.numOk; infer_instance

end Go.Proofs.YtgcnebepklelpaaGreat

/- Items: what the model's ItemFrame and FrameItem hand back. -/
namespace Go.Proofs.YtgcnebepklelpaaGreat
open Go.RowKit

def itV (seq : Int) (r : Rc) : Value := .agg #[.int .i64 seq, .int .i64 r.kind, .int .i64 r.valid, .int .i64 r.uid, .int .i64 r.next, .int .i64 r.flags, .string r.user, .string r.name, .string r.text]
theorem Box.nine {w : World} {b : Nat} {u0 u1 u2 u3 u4 u5 u6 u7 u8 : Value} {t : TypeId} (h : Box w b #[u0, u1, u2, u3, u4, u5, u6, u7, u8] t) :
    w.cell? ⟨b, 0, none⟩ = some u0 ∧ w.cell? ⟨b, 1, none⟩ = some u1 ∧ w.cell? ⟨b, 2, none⟩ = some u2 ∧ w.cell? ⟨b, 3, none⟩ = some u3 ∧ w.cell? ⟨b, 4, none⟩ = some u4 ∧ w.cell? ⟨b, 5, none⟩ = some u5 ∧ w.cell? ⟨b, 6, none⟩ = some u6 ∧ w.cell? ⟨b, 7, none⟩ = some u7 ∧ w.cell? ⟨b, 8, none⟩ = some u8 ∧
    w.frozen? ⟨b, 0, none⟩ = false ∧ w.frozen? ⟨b, 1, none⟩ = false ∧ w.frozen? ⟨b, 2, none⟩ = false ∧ w.frozen? ⟨b, 3, none⟩ = false ∧ w.frozen? ⟨b, 4, none⟩ = false ∧ w.frozen? ⟨b, 5, none⟩ = false ∧ w.frozen? ⟨b, 6, none⟩ = false ∧ w.frozen? ⟨b, 7, none⟩ = false ∧ w.frozen? ⟨b, 8, none⟩ = false :=
  ⟨h.cell 0 _ rfl, h.cell 1 _ rfl, h.cell 2 _ rfl, h.cell 3 _ rfl, h.cell 4 _ rfl, h.cell 5 _ rfl, h.cell 6 _ rfl, h.cell 7 _ rfl, h.cell 8 _ rfl, h.loose 0, h.loose 1, h.loose 2, h.loose 3, h.loose 4, h.loose 5, h.loose 6, h.loose 7, h.loose 8⟩
theorem below_set9 {B b : Nat} {w0 w : World} (h : Below B w0 w) (hb : B ≤ b) (v0 v1 v2 v3 v4 v5 v6 v7 v8 : Value) : Below B w0 ((set8 w b v0 v1 v2 v3 v4 v5 v6 v7).setCell ⟨b, 8, none⟩ v8) :=
  (below_set8 h hb v0 v1 v2 v3 v4 v5 v6 v7).setCell (p := ⟨b, 8, none⟩) hb v8



end Go.Proofs.YtgcnebepklelpaaGreat

/- What records tell, plainly: whatever the order in which they lie, and however often one lies there. -/
namespace Go.Proofs.YtgcnebepklelpaaGreat

abbrev Itm := Int × Rc

def aheadB (k : Itm → Int) (x y : Itm) : Bool := decide (k y < k x ∨ (k x = k y ∧ y.1 < x.1))

def bestStep (k : Itm → Int) (p : Itm → Bool) (o : Option Itm) (x : Itm) : Option Itm :=
  if p x = true then (match o with
    | none => some x
    | some y => if aheadB k x y = true then some x else some y) else o
def bestO (k : Itm → Int) (p : Itm → Bool) (l : List Itm) : Option Itm := l.foldl (bestStep k p) none

def BestI (k : Itm → Int) (p : Itm → Bool) (l : List Itm) (o : Option Itm) : Prop :=
  match o with
  | none => ∀ y ∈ l, p y = false
  | some x => x ∈ l ∧ p x = true ∧ ∀ y ∈ l, p y = true → k y < k x ∨ (k y = k x ∧ y.1 ≤ x.1)

theorem bestStep_I {k : Itm → Int} {p : Itm → Bool} {l : List Itm} {o : Option Itm} (h : BestI k p l o) (x : Itm) : BestI k p (l ++ [x]) (bestStep k p o x) := by
  unfold bestStep
  by_cases hp : p x = true
  · rw [if_pos hp]
    cases o with
    | none =>
      refine ⟨by simp, hp, fun y hy hpy => ?_⟩
      rcases List.mem_append.1 hy with hy | hy
      · rw [h y hy] at hpy; cases hpy
      · rw [List.mem_singleton.1 hy]; exact .inr ⟨rfl, Int.le_refl _⟩
    | some z =>
      obtain ⟨h1, h2, h3⟩ := h
      dsimp only
      by_cases ha : aheadB k x z = true
      · rw [if_pos ha]
        have ha := of_decide_eq_true ha
        refine ⟨by simp, hp, fun y hy hpy => ?_⟩
        rcases List.mem_append.1 hy with hy | hy
        · have := h3 y hy hpy; omega
        · rw [List.mem_singleton.1 hy]; exact .inr ⟨rfl, Int.le_refl _⟩
      · rw [if_neg ha]
        have ha : ¬ (k z < k x ∨ (k x = k z ∧ z.1 < x.1)) := fun c => ha (decide_eq_true c)
        refine ⟨List.mem_append_left _ h1, h2, fun y hy hpy => ?_⟩
        rcases List.mem_append.1 hy with hy | hy
        · exact h3 y hy hpy
        · rw [List.mem_singleton.1 hy]; omega
  · rw [if_neg hp]
    have hp : p x = false := by simpa using hp
    cases o with
    | none =>
      intro y hy
      rcases List.mem_append.1 hy with hy | hy
      · exact h y hy
      · rw [List.mem_singleton.1 hy]; exact hp
    | some z =>
      obtain ⟨h1, h2, h3⟩ := h
      refine ⟨List.mem_append_left _ h1, h2, fun y hy hpy => ?_⟩
      rcases List.mem_append.1 hy with hy | hy
      · exact h3 y hy hpy
      · rw [List.mem_singleton.1 hy, hp] at hpy; cases hpy

theorem bestFold_I {k : Itm → Int} {p : Itm → Bool} : ∀ (m l : List Itm) (o : Option Itm), BestI k p l o → BestI k p (l ++ m) (m.foldl (bestStep k p) o)
  | [], l, o, h => by rw [List.append_nil]; exact h
  | x :: m, l, o, h => by
    have := bestFold_I m (l ++ [x]) _ (bestStep_I h x)
    rw [List.append_assoc] at this
    exact this

theorem bestO_I (k : Itm → Int) (p : Itm → Bool) (l : List Itm) : BestI k p l (bestO k p l) := by
  have := bestFold_I (k := k) (p := p) l [] none (fun y hy => by cases hy)
  exact this

def Uniq (l : List Itm) : Prop := ∀ x ∈ l, ∀ y ∈ l, x.1 = y.1 → x = y

theorem BestI.same {k : Itm → Int} {p : Itm → Bool} {l m : List Itm} {o o' : Option Itm} (hu : Uniq l) (hm : ∀ x, x ∈ l ↔ x ∈ m) (h : BestI k p l o) (h' : BestI k p m o') : o = o' := by
  cases o with
  | none =>
    cases o' with
    | none => rfl
    | some y => have := h y ((hm y).2 h'.1); rw [h'.2.1] at this; cases this
  | some x =>
    cases o' with
    | none => have := h' x ((hm x).1 h.1); rw [h.2.1] at this; cases this
    | some y =>
      have a := h.2.2 y ((hm y).2 h'.1) h'.2.1
      have b := h'.2.2 x ((hm x).1 h.1) h.2.1
      rw [hu x h.1 y ((hm y).2 h'.1) (by omega)]

def insI (l : List Int) (x : Int) : List Int := l.filter (fun y => decide (y < x)) ++ (x :: l.filter (fun y => decide (x < y)))
theorem mem_insI {l : List Int} {x y : Int} : y ∈ insI l x ↔ y = x ∨ y ∈ l := by
  unfold insI
  simp only [List.mem_append, List.mem_cons, List.mem_filter, decide_eq_true_eq]
  constructor
  · rintro (⟨h, _⟩ | h | ⟨h, _⟩)
    · exact .inr h
    · exact .inl h
    · exact .inr h
  · rintro (h | h)
    · exact .inr (.inl h)
    · by_cases h1 : y < x
      · exact .inl ⟨h, h1⟩
      · by_cases h2 : x < y
        · exact .inr (.inr ⟨h, h2⟩)
        · exact .inr (.inl (by omega))
theorem insI_up {l : List Int} {x : Int} (h : l.Pairwise (· < ·)) : (insI l x).Pairwise (· < ·) := by
  unfold insI
  rw [List.pairwise_append]
  refine ⟨h.filter _, ?_, ?_⟩
  · rw [List.pairwise_cons]
    exact ⟨fun y hy => by simpa using (List.mem_filter.1 hy).2, h.filter _⟩
  · intro a ha b hb
    have ha := (List.mem_filter.1 ha).2
    simp only [decide_eq_true_eq] at ha
    rcases List.mem_cons.1 hb with rfl | hb
    · exact ha
    · have hb := (List.mem_filter.1 hb).2
      simp only [decide_eq_true_eq] at hb
      omega

def upOf (f : Itm → Option Int) (l : List Itm) : List Int := l.foldl (fun o x => match f x with | some n => insI o n | none => o) []
theorem upFold (f : Itm → Option Int) : ∀ (l : List Itm) (o : List Int), o.Pairwise (· < ·) →
    (l.foldl (fun o x => match f x with | some n => insI o n | none => o) o).Pairwise (· < ·) ∧
    ∀ n, n ∈ l.foldl (fun o x => match f x with | some n => insI o n | none => o) o ↔ n ∈ o ∨ ∃ x ∈ l, f x = some n
  | [], o, h => ⟨h, fun n => by simp⟩
  | x :: l, o, h => by
    rw [List.foldl_cons]
    cases hf : f x with
    | none =>
      obtain ⟨a, b⟩ := upFold f l o h
      refine ⟨a, fun n => ?_⟩
      rw [b n]
      constructor
      · rintro (h | ⟨y, hy, e⟩)
        · exact .inl h
        · exact .inr ⟨y, List.mem_cons_of_mem _ hy, e⟩
      · rintro (h | ⟨y, hy, e⟩)
        · exact .inl h
        · rcases List.mem_cons.1 hy with rfl | hy
          · rw [hf] at e; cases e
          · exact .inr ⟨y, hy, e⟩
    | some k =>
      obtain ⟨a, b⟩ := upFold f l (insI o k) (insI_up h)
      refine ⟨a, fun n => ?_⟩
      rw [b n, mem_insI]
      constructor
      · rintro ((rfl | h) | ⟨y, hy, e⟩)
        · exact .inr ⟨x, by simp, hf⟩
        · exact .inl h
        · exact .inr ⟨y, List.mem_cons_of_mem _ hy, e⟩
      · rintro (h | ⟨y, hy, e⟩)
        · exact .inl (.inr h)
        · rcases List.mem_cons.1 hy with rfl | hy
          · rw [hf] at e; cases e; exact .inl (.inl rfl)
          · exact .inr ⟨y, hy, e⟩
theorem upOf_up (f : Itm → Option Int) (l : List Itm) : (upOf f l).Pairwise (· < ·) := (upFold f l [] List.Pairwise.nil).1
theorem mem_upOf {f : Itm → Option Int} {l : List Itm} {n : Int} : n ∈ upOf f l ↔ ∃ x ∈ l, f x = some n := by
  have := (upFold f l [] List.Pairwise.nil).2 n
  rw [upOf, this]; simp
def mostOf (b : Int) (f : Itm → Int) (l : List Itm) : Int := l.foldl (fun n x => if n < f x then f x else n) b
theorem mostFold (f : Itm → Int) : ∀ (l : List Itm) (b : Int), b ≤ l.foldl (fun n x => if n < f x then f x else n) b ∧ (∀ x ∈ l, f x ≤ l.foldl (fun n x => if n < f x then f x else n) b) ∧
    (l.foldl (fun n x => if n < f x then f x else n) b = b ∨ ∃ x ∈ l, l.foldl (fun n x => if n < f x then f x else n) b = f x)
  | [], b => ⟨Int.le_refl _, fun x hx => (by cases hx), .inl rfl⟩
  | x :: l, b => by
    rw [List.foldl_cons]
    obtain ⟨a1, a2, a3⟩ := mostFold f l (if b < f x then f x else b)
    have hb : b ≤ (if b < f x then f x else b) ∧ f x ≤ (if b < f x then f x else b) ∧ ((if b < f x then f x else b) = b ∨ (if b < f x then f x else b) = f x) := by
      split
      · exact ⟨by omega, by omega, .inr rfl⟩
      · exact ⟨by omega, by omega, .inl rfl⟩
    refine ⟨Int.le_trans hb.1 a1, fun y hy => ?_, ?_⟩
    · rcases List.mem_cons.1 hy with rfl | hy
      · exact Int.le_trans hb.2.1 a1
      · exact a2 y hy
    · rcases a3 with e | ⟨y, hy, e⟩
      · rw [e]
        rcases hb.2.2 with h | h
        · exact .inl h
        · exact .inr ⟨x, by simp, h⟩
      · exact .inr ⟨y, List.mem_cons_of_mem _ hy, e⟩
structure Ml where
  uid : Int
  flags : Int
  text : ByteArray
structure Bx where
  valid : Int
  user : ByteArray
  name : ByteArray
  next : Int
  mails : List Ml

def bestR (kind valid uid : Int) (l : List Itm) : Option Itm := bestO (fun _ => 0) (fun x => decide (x.2.kind = kind ∧ x.2.valid = valid ∧ x.2.uid = uid)) l
def tellO (valid : Int) (l : List Itm) : Option Itm := bestO (fun x => x.2.next) (fun x => decide (x.2.kind = 1 ∧ x.2.valid = valid)) l
def nextK (valid : Int) (x : Itm) : Int := if x.2.valid = valid then (if x.2.kind = 1 then x.2.next else if x.2.kind = 3 ∨ x.2.kind = 5 then x.2.uid + 1 else 0) else 0
def nextOf (valid : Int) (l : List Itm) : Int := mostOf 1 (nextK valid) l
def uidK (valid : Int) (l : List Itm) (x : Itm) : Option Int := if x.2.kind = 3 ∧ x.2.valid = valid ∧ bestR 5 valid x.2.uid l = none then some x.2.uid else none
def mailK (valid : Int) (l : List Itm) (u : Int) : Ml :=
  ⟨u, ((bestR 4 valid u l).or (bestR 3 valid u l)).elim 0 (fun y => y.2.flags), (bestR 3 valid u l).elim emp (fun y => y.2.text)⟩
def mailsOf (valid : Int) (l : List Itm) : List Ml := (upOf (uidK valid l) l).map (mailK valid l)
def validK (l : List Itm) (x : Itm) : Option Int := if x.2.kind = 1 ∧ bestR 2 x.2.valid 0 l = none then some x.2.valid else none
def boxK (l : List Itm) (v : Int) : Bx := ⟨v, (tellO v l).elim emp (fun y => y.2.user), (tellO v l).elim emp (fun y => y.2.name), nextOf v l, mailsOf v l⟩
def itemsOk (l : List Itm) : Prop := (∀ x ∈ l, (1 ≤ x.1 ∧ x.1 ≤ 1000000000) ∧ x.2.ok) ∧ Uniq l ∧ l.length ≤ 200
def tellAll (l : List Itm) : List Bx := (upOf (validK l) l).map (boxK l)

theorem bestR_none {kind valid uid : Int} {l : List Itm} (h : bestR kind valid uid l = none) (x : Itm) (hx : x ∈ l) : ¬ (x.2.kind = kind ∧ x.2.valid = valid ∧ x.2.uid = uid) := by
  have := bestO_I (fun _ => 0) (fun x => decide (x.2.kind = kind ∧ x.2.valid = valid ∧ x.2.uid = uid)) l
  unfold bestR at h
  rw [h] at this
  exact of_decide_eq_false (this x hx)
theorem bestR_some {kind valid uid : Int} {l : List Itm} {x : Itm} (h : bestR kind valid uid l = some x) : x ∈ l ∧ (x.2.kind = kind ∧ x.2.valid = valid ∧ x.2.uid = uid) ∧ ∀ y ∈ l, y.2.kind = kind → y.2.valid = valid → y.2.uid = uid → y.1 ≤ x.1 := by
  have := bestO_I (fun _ => 0) (fun x => decide (x.2.kind = kind ∧ x.2.valid = valid ∧ x.2.uid = uid)) l
  unfold bestR at h
  rw [h] at this
  refine ⟨this.1, of_decide_eq_true this.2.1, fun y hy a b c => ?_⟩
  have := this.2.2 y hy (decide_eq_true ⟨a, b, c⟩)
  dsimp only at this
  omega
theorem bestR_there {kind valid uid : Int} {l : List Itm} {x : Itm} (hx : x ∈ l) (h : x.2.kind = kind ∧ x.2.valid = valid ∧ x.2.uid = uid) : ∃ y, bestR kind valid uid l = some y := by
  cases hb : bestR kind valid uid l with
  | none => exact absurd h (bestR_none hb x hx)
  | some y => exact ⟨y, rfl⟩

theorem mem_uids {v : Int} {l : List Itm} {n : Int} : n ∈ upOf (uidK v l) l ↔ (∃ x ∈ l, x.2.kind = 3 ∧ x.2.valid = v ∧ x.2.uid = n) ∧ bestR 5 v n l = none := by
  rw [mem_upOf]
  constructor
  · rintro ⟨x, hx, e⟩
    unfold uidK at e
    split at e
    · rename_i h
      cases e
      exact ⟨⟨x, hx, h.1, h.2.1, rfl⟩, h.2.2⟩
    · cases e
  · rintro ⟨⟨x, hx, a, b, rfl⟩, h⟩
    refine ⟨x, hx, ?_⟩
    unfold uidK
    rw [if_pos ⟨a, b, h⟩]
theorem mails_uids (v : Int) (l : List Itm) : (mailsOf v l).map (·.uid) = upOf (uidK v l) l := by
  unfold mailsOf
  rw [List.map_map]
  exact List.map_id' _
theorem mails_up (v : Int) (l : List Itm) : (mailsOf v l).Pairwise (fun a b => a.uid < b.uid) := by
  have := upOf_up (uidK v l) l
  rw [← mails_uids] at this
  exact List.pairwise_map.1 this
theorem mem_valids {l : List Itm} {n : Int} : n ∈ upOf (validK l) l ↔ (∃ x ∈ l, x.2.kind = 1 ∧ x.2.valid = n) ∧ bestR 2 n 0 l = none := by
  rw [mem_upOf]
  constructor
  · rintro ⟨x, hx, e⟩
    unfold validK at e
    split at e
    · rename_i h
      cases e
      exact ⟨⟨x, hx, h.1, rfl⟩, h.2⟩
    · cases e
  · rintro ⟨⟨x, hx, a, rfl⟩, h⟩
    refine ⟨x, hx, ?_⟩
    unfold validK
    rw [if_pos ⟨a, h⟩]
theorem boxes_valids (l : List Itm) : (tellAll l).map (·.valid) = upOf (validK l) l := by
  unfold tellAll
  rw [List.map_map]
  exact List.map_id' _
theorem boxes_up (l : List Itm) : (tellAll l).Pairwise (fun a b => a.valid < b.valid) := by
  have := upOf_up (validK l) l
  rw [← boxes_valids] at this
  exact List.pairwise_map.1 this
end Go.Proofs.YtgcnebepklelpaaGreat

/- How items lie in memory. -/
namespace Go.Proofs.YtgcnebepklelpaaGreat
open Go.RowKit

def itE : Enc Itm where
  ty := 69
  sty := 54
  sz := 9
  bytes := 96
  zero := .agg #[.int .i64 0, .int .i64 0, .int .i64 0, .int .i64 0, .int .i64 0, .int .i64 0, .string ⟨#[]⟩, .string ⟨#[]⟩, .string ⟨#[]⟩]
  f := fun x => [.int .i64 x.1, .int .i64 x.2.kind, .int .i64 x.2.valid, .int .i64 x.2.uid, .int .i64 x.2.next, .int .i64 x.2.flags, .string x.2.user, .string x.2.name, .string x.2.text]
  len := fun _ => rfl
  pos := by decide
  one := fun _ u hu => by simp at hu; rcases hu with rfl | rfl | rfl | rfl | rfl | rfl | rfl | rfl | rfl <;> rfl
  und := Tryz.underlying54
  info := by kernel_rfl
  zc := rfl
  z0 := (0, Rc.nil)
  zf := rfl

theorem it_cells {w w' : World} {g off : Nat} {l : List Itm} (hc : ∀ j x, l[j]? = some x → ∀ k u, (itE.f x)[k]? = some u → w.cell? ⟨g, off + j * itE.sz + k, none⟩ = some u)
    (hg : g < w.heap.size) (hb : Below w.heap.size w w') (i : Nat) (x : Itm) (hi : l[i]? = some x) :
    w'.cell? ⟨g, off + i * 9, none⟩ = some (.int .i64 x.1) ∧ w'.cell? ⟨g, off + i * 9 + 1, none⟩ = some (.int .i64 x.2.kind) ∧ w'.cell? ⟨g, off + i * 9 + 2, none⟩ = some (.int .i64 x.2.valid) ∧ w'.cell? ⟨g, off + i * 9 + 3, none⟩ = some (.int .i64 x.2.uid) ∧ w'.cell? ⟨g, off + i * 9 + 4, none⟩ = some (.int .i64 x.2.next) ∧
    w'.cell? ⟨g, off + i * 9 + 5, none⟩ = some (.int .i64 x.2.flags) ∧ w'.cell? ⟨g, off + i * 9 + 6, none⟩ = some (.string x.2.user) ∧ w'.cell? ⟨g, off + i * 9 + 7, none⟩ = some (.string x.2.name) ∧ w'.cell? ⟨g, off + i * 9 + 8, none⟩ = some (.string x.2.text) := by
  have h : ∀ k u, (itE.f x)[k]? = some u → w'.cell? ⟨g, off + i * 9 + k, none⟩ = some u := fun k u hu => (hb.cell (p := ⟨g, off + i * 9 + k, none⟩) hg).trans (hc i x hi k u hu)
  exact ⟨h 0 _ rfl, h 1 _ rfl, h 2 _ rfl, h 3 _ rfl, h 4 _ rfl, h 5 _ rfl, h 6 _ rfl, h 7 _ rfl, h 8 _ rfl⟩

end Go.Proofs.YtgcnebepklelpaaGreat
