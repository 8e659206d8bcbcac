/- Texts of our own, joined. -/
import Derived.Test.YtklkhllkjnbhjaaGreatDoorJj
import Derived.Test.YtklkhllkjnbhjaaGreatDoorJg
import Derived.Test.YtklkhllkjnbhjaaGreatDoorJa
import Derived.Laws.Concat
import Derived.Lib.Hide
import Derived.Lib.ConvBytes
import Derived.Deep.RegionHeld3
import Derived.Deep.RegionLaw
import Derived.Deep.QuietTactic
import Derived.BigQuiet
/- Records: what the model's WordOk, RecOk, RecText hand back. -/
namespace Go.Proofs.YtklkhllkjnbhjaaGreatDoor
open Go.RowKit
set_option maxRecDepth 100000
set_option maxHeartbeats 8000000
def Rc.v (r : Rc) : Value := .agg #[.int .i64 r.kind, .int .i64 r.valid, .int .i64 r.uid, .int .i64 r.next, .int .i64 r.flags, .string r.user, .string r.name, .string r.text]
def Rc.cs (r : Rc) : Array Value := #[.int .i64 r.kind, .int .i64 r.valid, .int .i64 r.uid, .int .i64 r.next, .int .i64 r.flags, .string r.user, .string r.name, .string r.text]
theorem Box.rec {w : World} {b : Nat} {r : Rc} {t : TypeId} (h : Box w b r.cs t) : w.cell? ⟨b, 0, none⟩ = some (.int .i64 r.kind) ∧ w.cell? ⟨b, 1, none⟩ = some (.int .i64 r.valid) ∧ w.cell? ⟨b, 2, none⟩ = some (.int .i64 r.uid) ∧ w.cell? ⟨b, 3, none⟩ = some (.int .i64 r.next) ∧ w.cell? ⟨b, 4, none⟩ = some (.int .i64 r.flags) ∧ w.cell? ⟨b, 5, none⟩ = some (.string r.user) ∧ w.cell? ⟨b, 6, none⟩ = some (.string r.name) ∧ w.cell? ⟨b, 7, none⟩ = some (.string r.text) :=
  ⟨h.cell 0 _ rfl, h.cell 1 _ rfl, h.cell 2 _ rfl, h.cell 3 _ rfl, h.cell 4 _ rfl, h.cell 5 _ rfl, h.cell 6 _ rfl, h.cell 7 _ rfl⟩
theorem index_atW (s : ByteArray) (k : Nat) (h : k < s.size) (wx : World) :
    (Instr.index 9 (.string s) (.int .i64 (k : Int))).run Tryz.prog wx = .ok (.int .u8 (s[k].toNat : Int)) wx := by
  have hu := Tryz.underlying9; simp [Instr.index, run_underlying hu, go_sem, h]
theorem l01In_yes (n lo hi : Int) (w : World) (h1 : lo ≤ n) (h2 : n ≤ hi) :
    Calls Tryz.prog 52 #[.int .i64 n, .int .i64 lo, .int .i64 hi] w fun e w' => e = .returned (.bool true) ∧ w = w' :=
  (l01In_any n lo hi w).mono fun _ _ h => ⟨by rw [h.1]; simp [h1, h2], h.2.symm⟩
theorem l01In_no (n lo hi : Int) (w : World) (h : ¬ (lo ≤ n ∧ n ≤ hi)) :
    Calls Tryz.prog 52 #[.int .i64 n, .int .i64 lo, .int .i64 hi] w fun e w' => e = .returned (.bool false) ∧ w = w' :=
  (l01In_any n lo hi w).mono fun _ _ h' => ⟨by rw [h'.1]; simp; omega, h'.2.symm⟩
theorem specWordOk_any (s : ByteArray) (w : World) (hs : s.size ≤ 1099511627776) :
    Calls Tryz.prog 115 #[.string s] w fun e w' => e = .returned (.bool (decide (wdOk s))) ∧ w = w' := by
  go_enter Tryz.func115, Tryz.ntmps115
  go_wp2; go_loop [3] (fun iv => ∃ i : Nat, i ≤ s.size ∧ iv = .int .i64 (i : Int) ∧ ∀ j (hj : j < s.size), j < i → 97 ≤ s[j].toNat ∧ s[j].toNat ≤ 122) (fun iv => s.size - (intOf iv).toNat)
  case atStart => exact ⟨0, by omega, rfl, fun j _ hj => by omega⟩
  case round =>
    obtain ⟨i, hi, rfl, hall⟩ := hrel; have HA := Lib.hid hall; clear hall; by_cases hlt : i < s.size
    · have hlt' : (i : Int) < (s.size : Int) := by omega
      have hix := index_atW s i hlt; have HB : Hid (¬ (97 ≤ s[i].toNat ∧ s[i].toNat ≤ 122) → decide (wdOk s) = false) := fun h => decide_eq_false (fun hw => h (hw.2 _ (by
        show s.data[i] ∈ s.data.toList
        exact Array.getElem_mem_toList _)))
      have HN : Hid (97 ≤ s[i].toNat ∧ s[i].toNat ≤ 122 → ∀ j (hj : j < s.size), j < i + 1 → 97 ≤ s[j].toNat ∧ s[j].toNat ≤ 122) := by
        intro h j hj hji; by_cases e : j = i
        · subst e; exact h
        · exact HA.out j hj (by omega)
      generalize s[i].toNat = c at hix HB HN; by_cases h1 : c < 97
      · have h1' : (c : Int) < 97 := by omega
        go_wp2; go_ret; exact ⟨by rw [HB.out (by omega)]; rfl, rfl⟩
      · have h1' : ¬ (c : Int) < 97 := by omega
        by_cases h2 : 122 < c
        · have h2' : (122 : Int) < (c : Int) := by omega
          go_wp2; go_ret; exact ⟨by rw [HB.out (by omega)]; rfl, rfl⟩
        · have h2' : ¬ (122 : Int) < (c : Int) := by omega
          go_wp2; go_round
          case rel => exact ⟨i + 1, by omega, by go_num, HN.out ⟨by omega, by omega⟩⟩
          case measure => simp [intOf]; omega
    · have hge : ¬ (i : Int) < (s.size : Int) := by omega
      have HE : Hid (decide (wdOk s) = decide (1 ≤ s.size ∧ s.size ≤ 8)) := show _ = _ from decide_eq_decide.2 ⟨fun h => h.1, fun h => ⟨h, fun b hb => by
        obtain ⟨j, hj, rfl⟩ := List.getElem_of_mem hb; have hj2 : j < s.size := (by rw [← tl_len]; exact hj); exact HA.out j hj2 (by omega)⟩⟩
      by_cases hin : 1 ≤ s.size ∧ s.size ≤ 8
      · go_wp2_with (go_at_call 52; refine (l01In_yes _ _ _ _ (by omega) (by omega)).mono ?_; rintro e w5 ⟨rfl, rfl⟩)
        go_ret; exact ⟨by rw [HE.out, decide_eq_true hin]; rfl, rfl⟩
      · go_wp2_with (go_at_call 52; refine (l01In_no _ _ _ _ (by omega)).mono ?_; rintro e w5 ⟨rfl, rfl⟩)
        go_ret; exact ⟨by rw [HE.out, decide_eq_false hin]; rfl, rfl⟩
theorem emp_beq (s : ByteArray) : (s.toList == []) = decide (s = emp) := by
  rw [Go.ByteArray.toList_eq]; by_cases h : s = emp
  · rw [decide_eq_true h, h]; rfl
  · rw [decide_eq_false h]
    refine beq_eq_false_iff_ne.2 fun e => h ?_; obtain ⟨⟨l⟩⟩ := s; simp at e; rw [e]; rfl
theorem specRecOk_any (r : Rc) (w : World) (h1 : r.user.size ≤ 1099511627776) (h2 : r.name.size ≤ 1099511627776) (h3 : r.text.size ≤ 1099511627776) :
    Calls Tryz.prog 83 #[r.v] w fun e w' => e = .returned (.bool (decide r.ok)) ∧ Below w.heap.size w w' := by
  have b0 : Below w.heap.size w (w.alloc (.cells r.cs 33)) := (Below.refl _ _).alloc (Nat.le_refl _) _; have hx := Box.new w r.cs 33; obtain ⟨c0, c1, c2, c3, c4, c5, c6, c7⟩ := hx.rec; obtain ⟨kind, valid, uid, next, flags, user, name, text⟩ := r; unfold Rc.v; unfold Rc.cs at c0 c1 c2 c3 c4 c5 c6 c7 b0; simp only at c0 c1 c2 c3 c4 c5 c6 c7 b0 h1 h2 h3 ⊢; clear hx; obtain ⟨bu, hbu⟩ : ∃ bu, decide (wdOk user) = bu := ⟨_, rfl⟩; obtain ⟨bn, hbn⟩ : ∃ bn, decide (wdOk name) = bn := ⟨_, rfl⟩; obtain ⟨eu, heu⟩ : ∃ eu, decide (user = emp) = eu := ⟨_, rfl⟩; obtain ⟨en, hen⟩ : ∃ en, decide (name = emp) = en := ⟨_, rfl⟩; obtain ⟨et, het⟩ : ∃ et, decide (text = emp) = et := ⟨_, rfl⟩; have qu : (user.toList == []) = eu := by rw [emp_beq, heu]
  have qn : (name.toList == []) = en := by rw [emp_beq, hen]
  have qt : (text.toList == []) = et := by rw [emp_beq, het]
  have HE : Hid (decide (Rc.ok ⟨kind, valid, uid, next, flags, user, name, text⟩) = decide ((1 ≤ kind ∧ kind ≤ 5) ∧ (1 ≤ valid ∧ valid ≤ 9999) ∧ (if kind = 1 then bu = true ∧ bn = true ∧ 1 ≤ next ∧ next ≤ 10000 else eu = true ∧ en = true ∧ next = 0) ∧ (if 3 ≤ kind then 1 ≤ uid ∧ uid ≤ 9999 else uid = 0) ∧ (if kind = 3 ∨ kind = 4 then 0 ≤ flags ∧ flags ≤ 7 else flags = 0) ∧ (if kind = 3 then text.size ≤ 100 else et = true))) := by
    rw [← hbu, ← hbn, ← heu, ← hen, ← het]; simp only [decide_eq_true_eq]; exact decide_eq_decide.2 Iff.rfl
  have HU := Lib.hid hbu; have HN := Lib.hid hbn; clear hbu hbn heu hen het; go_enter Tryz.func83, Tryz.ntmps83
  by_cases hk : 1 ≤ kind ∧ kind ≤ 5
  · by_cases hv : 1 ≤ valid ∧ valid ≤ 9999
    · rcases (show kind = 1 ∨ kind = 2 ∨ kind = 3 ∨ kind = 4 ∨ kind = 5 by omega) with rfl | rfl | rfl | rfl | rfl
      · cases bu
        case false =>
          go_wp2_with (first | (go_at_call 52; first | (refine (l01In_yes _ _ _ _ (by omega) (by omega)).mono ?_; rintro e w5 ⟨rfl, rfl⟩) | (refine (l01In_no _ _ _ _ (by omega)).mono ?_; rintro e w5 ⟨rfl, rfl⟩)) | (go_at_call 115; refine (specWordOk_any _ _ (by first | exact h1 | exact h2)).mono ?_; rintro e w5 ⟨rfl, rfl⟩; first | rw [HU.out] | rw [HN.out]))
          go_ret; exact ⟨by rw [HE.out, decide_eq_false (by simp)]; rfl, b0⟩
        cases bn
        case false =>
          go_wp2_with (first | (go_at_call 52; first | (refine (l01In_yes _ _ _ _ (by omega) (by omega)).mono ?_; rintro e w5 ⟨rfl, rfl⟩) | (refine (l01In_no _ _ _ _ (by omega)).mono ?_; rintro e w5 ⟨rfl, rfl⟩)) | (go_at_call 115; refine (specWordOk_any _ _ (by first | exact h1 | exact h2)).mono ?_; rintro e w5 ⟨rfl, rfl⟩; first | rw [HU.out] | rw [HN.out]))
          go_ret; exact ⟨by rw [HE.out, decide_eq_false (by simp)]; rfl, b0⟩
        by_cases hnext : 1 ≤ next ∧ next ≤ 10000
        rotate_left
        · go_wp2_with (first | (go_at_call 52; first | (refine (l01In_yes _ _ _ _ (by omega) (by omega)).mono ?_; rintro e w5 ⟨rfl, rfl⟩) | (refine (l01In_no _ _ _ _ (by omega)).mono ?_; rintro e w5 ⟨rfl, rfl⟩)) | (go_at_call 115; refine (specWordOk_any _ _ (by first | exact h1 | exact h2)).mono ?_; rintro e w5 ⟨rfl, rfl⟩; first | rw [HU.out] | rw [HN.out]))
          go_ret; exact ⟨by rw [HE.out, decide_eq_false (by simp; omega)]; rfl, b0⟩
        by_cases huid : uid = 0
        rotate_left
        · have huid' : (uid == 0) = false := beq_eq_false_iff_ne.2 huid
          go_wp2_with (first | (go_at_call 52; first | (refine (l01In_yes _ _ _ _ (by omega) (by omega)).mono ?_; rintro e w5 ⟨rfl, rfl⟩) | (refine (l01In_no _ _ _ _ (by omega)).mono ?_; rintro e w5 ⟨rfl, rfl⟩)) | (go_at_call 115; refine (specWordOk_any _ _ (by first | exact h1 | exact h2)).mono ?_; rintro e w5 ⟨rfl, rfl⟩; first | rw [HU.out] | rw [HN.out]))
          go_ret; exact ⟨by rw [HE.out, decide_eq_false (by simp [huid])]; rfl, b0⟩
        subst huid; by_cases hflags : flags = 0
        rotate_left
        · have hflags' : (flags == 0) = false := beq_eq_false_iff_ne.2 hflags
          go_wp2_with (first | (go_at_call 52; first | (refine (l01In_yes _ _ _ _ (by omega) (by omega)).mono ?_; rintro e w5 ⟨rfl, rfl⟩) | (refine (l01In_no _ _ _ _ (by omega)).mono ?_; rintro e w5 ⟨rfl, rfl⟩)) | (go_at_call 115; refine (specWordOk_any _ _ (by first | exact h1 | exact h2)).mono ?_; rintro e w5 ⟨rfl, rfl⟩; first | rw [HU.out] | rw [HN.out]))
          go_ret; exact ⟨by rw [HE.out, decide_eq_false (by simp [hflags])]; rfl, b0⟩
        subst hflags; go_wp2_with (first | (go_at_call 52; first | (refine (l01In_yes _ _ _ _ (by omega) (by omega)).mono ?_; rintro e w5 ⟨rfl, rfl⟩) | (refine (l01In_no _ _ _ _ (by omega)).mono ?_; rintro e w5 ⟨rfl, rfl⟩)) | (go_at_call 115; refine (specWordOk_any _ _ (by first | exact h1 | exact h2)).mono ?_; rintro e w5 ⟨rfl, rfl⟩; first | rw [HU.out] | rw [HN.out]))
        go_ret; exact ⟨by rw [HE.out]; (cases et <;> simp [hv, hnext]), b0⟩
      · cases eu
        case false =>
          go_wp2_with (first | (go_at_call 52; first | (refine (l01In_yes _ _ _ _ (by omega) (by omega)).mono ?_; rintro e w5 ⟨rfl, rfl⟩) | (refine (l01In_no _ _ _ _ (by omega)).mono ?_; rintro e w5 ⟨rfl, rfl⟩)) | (go_at_call 115; refine (specWordOk_any _ _ (by first | exact h1 | exact h2)).mono ?_; rintro e w5 ⟨rfl, rfl⟩; first | rw [HU.out] | rw [HN.out]))
          go_ret; exact ⟨by rw [HE.out, decide_eq_false (by simp)]; rfl, b0⟩
        cases en
        case false =>
          go_wp2_with (first | (go_at_call 52; first | (refine (l01In_yes _ _ _ _ (by omega) (by omega)).mono ?_; rintro e w5 ⟨rfl, rfl⟩) | (refine (l01In_no _ _ _ _ (by omega)).mono ?_; rintro e w5 ⟨rfl, rfl⟩)) | (go_at_call 115; refine (specWordOk_any _ _ (by first | exact h1 | exact h2)).mono ?_; rintro e w5 ⟨rfl, rfl⟩; first | rw [HU.out] | rw [HN.out]))
          go_ret; exact ⟨by rw [HE.out, decide_eq_false (by simp)]; rfl, b0⟩
        by_cases hnext : next = 0
        rotate_left
        · have hnext' : (next == 0) = false := beq_eq_false_iff_ne.2 hnext
          go_wp2_with (first | (go_at_call 52; first | (refine (l01In_yes _ _ _ _ (by omega) (by omega)).mono ?_; rintro e w5 ⟨rfl, rfl⟩) | (refine (l01In_no _ _ _ _ (by omega)).mono ?_; rintro e w5 ⟨rfl, rfl⟩)) | (go_at_call 115; refine (specWordOk_any _ _ (by first | exact h1 | exact h2)).mono ?_; rintro e w5 ⟨rfl, rfl⟩; first | rw [HU.out] | rw [HN.out]))
          go_ret; exact ⟨by rw [HE.out, decide_eq_false (by simp [hnext])]; rfl, b0⟩
        subst hnext; by_cases huid : uid = 0
        rotate_left
        · have huid' : (uid == 0) = false := beq_eq_false_iff_ne.2 huid
          go_wp2_with (first | (go_at_call 52; first | (refine (l01In_yes _ _ _ _ (by omega) (by omega)).mono ?_; rintro e w5 ⟨rfl, rfl⟩) | (refine (l01In_no _ _ _ _ (by omega)).mono ?_; rintro e w5 ⟨rfl, rfl⟩)) | (go_at_call 115; refine (specWordOk_any _ _ (by first | exact h1 | exact h2)).mono ?_; rintro e w5 ⟨rfl, rfl⟩; first | rw [HU.out] | rw [HN.out]))
          go_ret; exact ⟨by rw [HE.out, decide_eq_false (by simp [huid])]; rfl, b0⟩
        subst huid; by_cases hflags : flags = 0
        rotate_left
        · have hflags' : (flags == 0) = false := beq_eq_false_iff_ne.2 hflags
          go_wp2_with (first | (go_at_call 52; first | (refine (l01In_yes _ _ _ _ (by omega) (by omega)).mono ?_; rintro e w5 ⟨rfl, rfl⟩) | (refine (l01In_no _ _ _ _ (by omega)).mono ?_; rintro e w5 ⟨rfl, rfl⟩)) | (go_at_call 115; refine (specWordOk_any _ _ (by first | exact h1 | exact h2)).mono ?_; rintro e w5 ⟨rfl, rfl⟩; first | rw [HU.out] | rw [HN.out]))
          go_ret; exact ⟨by rw [HE.out, decide_eq_false (by simp [hflags])]; rfl, b0⟩
        subst hflags; go_wp2_with (first | (go_at_call 52; first | (refine (l01In_yes _ _ _ _ (by omega) (by omega)).mono ?_; rintro e w5 ⟨rfl, rfl⟩) | (refine (l01In_no _ _ _ _ (by omega)).mono ?_; rintro e w5 ⟨rfl, rfl⟩)) | (go_at_call 115; refine (specWordOk_any _ _ (by first | exact h1 | exact h2)).mono ?_; rintro e w5 ⟨rfl, rfl⟩; first | rw [HU.out] | rw [HN.out]))
        go_ret; exact ⟨by rw [HE.out]; (cases et <;> simp [hv]), b0⟩
      · cases eu
        case false =>
          go_wp2_with (first | (go_at_call 52; first | (refine (l01In_yes _ _ _ _ (by omega) (by omega)).mono ?_; rintro e w5 ⟨rfl, rfl⟩) | (refine (l01In_no _ _ _ _ (by omega)).mono ?_; rintro e w5 ⟨rfl, rfl⟩)) | (go_at_call 115; refine (specWordOk_any _ _ (by first | exact h1 | exact h2)).mono ?_; rintro e w5 ⟨rfl, rfl⟩; first | rw [HU.out] | rw [HN.out]))
          go_ret; exact ⟨by rw [HE.out, decide_eq_false (by simp)]; rfl, b0⟩
        cases en
        case false =>
          go_wp2_with (first | (go_at_call 52; first | (refine (l01In_yes _ _ _ _ (by omega) (by omega)).mono ?_; rintro e w5 ⟨rfl, rfl⟩) | (refine (l01In_no _ _ _ _ (by omega)).mono ?_; rintro e w5 ⟨rfl, rfl⟩)) | (go_at_call 115; refine (specWordOk_any _ _ (by first | exact h1 | exact h2)).mono ?_; rintro e w5 ⟨rfl, rfl⟩; first | rw [HU.out] | rw [HN.out]))
          go_ret; exact ⟨by rw [HE.out, decide_eq_false (by simp)]; rfl, b0⟩
        by_cases hnext : next = 0
        rotate_left
        · have hnext' : (next == 0) = false := beq_eq_false_iff_ne.2 hnext
          go_wp2_with (first | (go_at_call 52; first | (refine (l01In_yes _ _ _ _ (by omega) (by omega)).mono ?_; rintro e w5 ⟨rfl, rfl⟩) | (refine (l01In_no _ _ _ _ (by omega)).mono ?_; rintro e w5 ⟨rfl, rfl⟩)) | (go_at_call 115; refine (specWordOk_any _ _ (by first | exact h1 | exact h2)).mono ?_; rintro e w5 ⟨rfl, rfl⟩; first | rw [HU.out] | rw [HN.out]))
          go_ret; exact ⟨by rw [HE.out, decide_eq_false (by simp [hnext])]; rfl, b0⟩
        subst hnext; by_cases huid : 1 ≤ uid ∧ uid ≤ 9999
        rotate_left
        · go_wp2_with (first | (go_at_call 52; first | (refine (l01In_yes _ _ _ _ (by omega) (by omega)).mono ?_; rintro e w5 ⟨rfl, rfl⟩) | (refine (l01In_no _ _ _ _ (by omega)).mono ?_; rintro e w5 ⟨rfl, rfl⟩)) | (go_at_call 115; refine (specWordOk_any _ _ (by first | exact h1 | exact h2)).mono ?_; rintro e w5 ⟨rfl, rfl⟩; first | rw [HU.out] | rw [HN.out]))
          go_ret; exact ⟨by rw [HE.out, decide_eq_false (by simp; omega)]; rfl, b0⟩
        by_cases hflags : 0 ≤ flags ∧ flags ≤ 7
        rotate_left
        · go_wp2_with (first | (go_at_call 52; first | (refine (l01In_yes _ _ _ _ (by omega) (by omega)).mono ?_; rintro e w5 ⟨rfl, rfl⟩) | (refine (l01In_no _ _ _ _ (by omega)).mono ?_; rintro e w5 ⟨rfl, rfl⟩)) | (go_at_call 115; refine (specWordOk_any _ _ (by first | exact h1 | exact h2)).mono ?_; rintro e w5 ⟨rfl, rfl⟩; first | rw [HU.out] | rw [HN.out]))
          go_ret; exact ⟨by rw [HE.out, decide_eq_false (by simp; omega)]; rfl, b0⟩
        go_wp2_with (first | (go_at_call 52; first | (refine (l01In_yes _ _ _ _ (by omega) (by omega)).mono ?_; rintro e w5 ⟨rfl, rfl⟩) | (refine (l01In_no _ _ _ _ (by omega)).mono ?_; rintro e w5 ⟨rfl, rfl⟩)) | (go_at_call 115; refine (specWordOk_any _ _ (by first | exact h1 | exact h2)).mono ?_; rintro e w5 ⟨rfl, rfl⟩; first | rw [HU.out] | rw [HN.out]))
        go_ret; exact ⟨by rw [HE.out]; (simp [hv, huid, hflags]; omega), b0⟩
      · cases eu
        case false =>
          go_wp2_with (first | (go_at_call 52; first | (refine (l01In_yes _ _ _ _ (by omega) (by omega)).mono ?_; rintro e w5 ⟨rfl, rfl⟩) | (refine (l01In_no _ _ _ _ (by omega)).mono ?_; rintro e w5 ⟨rfl, rfl⟩)) | (go_at_call 115; refine (specWordOk_any _ _ (by first | exact h1 | exact h2)).mono ?_; rintro e w5 ⟨rfl, rfl⟩; first | rw [HU.out] | rw [HN.out]))
          go_ret; exact ⟨by rw [HE.out, decide_eq_false (by simp)]; rfl, b0⟩
        cases en
        case false =>
          go_wp2_with (first | (go_at_call 52; first | (refine (l01In_yes _ _ _ _ (by omega) (by omega)).mono ?_; rintro e w5 ⟨rfl, rfl⟩) | (refine (l01In_no _ _ _ _ (by omega)).mono ?_; rintro e w5 ⟨rfl, rfl⟩)) | (go_at_call 115; refine (specWordOk_any _ _ (by first | exact h1 | exact h2)).mono ?_; rintro e w5 ⟨rfl, rfl⟩; first | rw [HU.out] | rw [HN.out]))
          go_ret; exact ⟨by rw [HE.out, decide_eq_false (by simp)]; rfl, b0⟩
        by_cases hnext : next = 0
        rotate_left
        · have hnext' : (next == 0) = false := beq_eq_false_iff_ne.2 hnext
          go_wp2_with (first | (go_at_call 52; first | (refine (l01In_yes _ _ _ _ (by omega) (by omega)).mono ?_; rintro e w5 ⟨rfl, rfl⟩) | (refine (l01In_no _ _ _ _ (by omega)).mono ?_; rintro e w5 ⟨rfl, rfl⟩)) | (go_at_call 115; refine (specWordOk_any _ _ (by first | exact h1 | exact h2)).mono ?_; rintro e w5 ⟨rfl, rfl⟩; first | rw [HU.out] | rw [HN.out]))
          go_ret; exact ⟨by rw [HE.out, decide_eq_false (by simp [hnext])]; rfl, b0⟩
        subst hnext; by_cases huid : 1 ≤ uid ∧ uid ≤ 9999
        rotate_left
        · go_wp2_with (first | (go_at_call 52; first | (refine (l01In_yes _ _ _ _ (by omega) (by omega)).mono ?_; rintro e w5 ⟨rfl, rfl⟩) | (refine (l01In_no _ _ _ _ (by omega)).mono ?_; rintro e w5 ⟨rfl, rfl⟩)) | (go_at_call 115; refine (specWordOk_any _ _ (by first | exact h1 | exact h2)).mono ?_; rintro e w5 ⟨rfl, rfl⟩; first | rw [HU.out] | rw [HN.out]))
          go_ret; exact ⟨by rw [HE.out, decide_eq_false (by simp; omega)]; rfl, b0⟩
        by_cases hflags : 0 ≤ flags ∧ flags ≤ 7
        rotate_left
        · go_wp2_with (first | (go_at_call 52; first | (refine (l01In_yes _ _ _ _ (by omega) (by omega)).mono ?_; rintro e w5 ⟨rfl, rfl⟩) | (refine (l01In_no _ _ _ _ (by omega)).mono ?_; rintro e w5 ⟨rfl, rfl⟩)) | (go_at_call 115; refine (specWordOk_any _ _ (by first | exact h1 | exact h2)).mono ?_; rintro e w5 ⟨rfl, rfl⟩; first | rw [HU.out] | rw [HN.out]))
          go_ret; exact ⟨by rw [HE.out, decide_eq_false (by simp; omega)]; rfl, b0⟩
        go_wp2_with (first | (go_at_call 52; first | (refine (l01In_yes _ _ _ _ (by omega) (by omega)).mono ?_; rintro e w5 ⟨rfl, rfl⟩) | (refine (l01In_no _ _ _ _ (by omega)).mono ?_; rintro e w5 ⟨rfl, rfl⟩)) | (go_at_call 115; refine (specWordOk_any _ _ (by first | exact h1 | exact h2)).mono ?_; rintro e w5 ⟨rfl, rfl⟩; first | rw [HU.out] | rw [HN.out]))
        go_ret; exact ⟨by rw [HE.out]; (cases et <;> simp [hv, huid, hflags]), b0⟩
      · cases eu
        case false =>
          go_wp2_with (first | (go_at_call 52; first | (refine (l01In_yes _ _ _ _ (by omega) (by omega)).mono ?_; rintro e w5 ⟨rfl, rfl⟩) | (refine (l01In_no _ _ _ _ (by omega)).mono ?_; rintro e w5 ⟨rfl, rfl⟩)) | (go_at_call 115; refine (specWordOk_any _ _ (by first | exact h1 | exact h2)).mono ?_; rintro e w5 ⟨rfl, rfl⟩; first | rw [HU.out] | rw [HN.out]))
          go_ret; exact ⟨by rw [HE.out, decide_eq_false (by simp)]; rfl, b0⟩
        cases en
        case false =>
          go_wp2_with (first | (go_at_call 52; first | (refine (l01In_yes _ _ _ _ (by omega) (by omega)).mono ?_; rintro e w5 ⟨rfl, rfl⟩) | (refine (l01In_no _ _ _ _ (by omega)).mono ?_; rintro e w5 ⟨rfl, rfl⟩)) | (go_at_call 115; refine (specWordOk_any _ _ (by first | exact h1 | exact h2)).mono ?_; rintro e w5 ⟨rfl, rfl⟩; first | rw [HU.out] | rw [HN.out]))
          go_ret; exact ⟨by rw [HE.out, decide_eq_false (by simp)]; rfl, b0⟩
        by_cases hnext : next = 0
        rotate_left
        · have hnext' : (next == 0) = false := beq_eq_false_iff_ne.2 hnext
          go_wp2_with (first | (go_at_call 52; first | (refine (l01In_yes _ _ _ _ (by omega) (by omega)).mono ?_; rintro e w5 ⟨rfl, rfl⟩) | (refine (l01In_no _ _ _ _ (by omega)).mono ?_; rintro e w5 ⟨rfl, rfl⟩)) | (go_at_call 115; refine (specWordOk_any _ _ (by first | exact h1 | exact h2)).mono ?_; rintro e w5 ⟨rfl, rfl⟩; first | rw [HU.out] | rw [HN.out]))
          go_ret; exact ⟨by rw [HE.out, decide_eq_false (by simp [hnext])]; rfl, b0⟩
        subst hnext; by_cases huid : 1 ≤ uid ∧ uid ≤ 9999
        rotate_left
        · go_wp2_with (first | (go_at_call 52; first | (refine (l01In_yes _ _ _ _ (by omega) (by omega)).mono ?_; rintro e w5 ⟨rfl, rfl⟩) | (refine (l01In_no _ _ _ _ (by omega)).mono ?_; rintro e w5 ⟨rfl, rfl⟩)) | (go_at_call 115; refine (specWordOk_any _ _ (by first | exact h1 | exact h2)).mono ?_; rintro e w5 ⟨rfl, rfl⟩; first | rw [HU.out] | rw [HN.out]))
          go_ret; exact ⟨by rw [HE.out, decide_eq_false (by simp; omega)]; rfl, b0⟩
        by_cases hflags : flags = 0
        rotate_left
        · have hflags' : (flags == 0) = false := beq_eq_false_iff_ne.2 hflags
          go_wp2_with (first | (go_at_call 52; first | (refine (l01In_yes _ _ _ _ (by omega) (by omega)).mono ?_; rintro e w5 ⟨rfl, rfl⟩) | (refine (l01In_no _ _ _ _ (by omega)).mono ?_; rintro e w5 ⟨rfl, rfl⟩)) | (go_at_call 115; refine (specWordOk_any _ _ (by first | exact h1 | exact h2)).mono ?_; rintro e w5 ⟨rfl, rfl⟩; first | rw [HU.out] | rw [HN.out]))
          go_ret; exact ⟨by rw [HE.out, decide_eq_false (by simp [hflags])]; rfl, b0⟩
        subst hflags; go_wp2_with (first | (go_at_call 52; first | (refine (l01In_yes _ _ _ _ (by omega) (by omega)).mono ?_; rintro e w5 ⟨rfl, rfl⟩) | (refine (l01In_no _ _ _ _ (by omega)).mono ?_; rintro e w5 ⟨rfl, rfl⟩)) | (go_at_call 115; refine (specWordOk_any _ _ (by first | exact h1 | exact h2)).mono ?_; rintro e w5 ⟨rfl, rfl⟩; first | rw [HU.out] | rw [HN.out]))
        go_ret; exact ⟨by rw [HE.out]; (cases et <;> simp [hv, huid]), b0⟩
    · go_wp2_with (go_at_call 52; first | (refine (l01In_yes _ _ _ _ (by omega) (by omega)).mono ?_; rintro e w5 ⟨rfl, rfl⟩) | (refine (l01In_no _ _ _ _ (by omega)).mono ?_; rintro e w5 ⟨rfl, rfl⟩))
      go_ret; exact ⟨by rw [HE.out, decide_eq_false (fun h => hv h.2.1)]; rfl, b0⟩
  · go_wp2_with (go_at_call 52; refine (l01In_no _ _ _ _ (by omega)).mono ?_; rintro e w5 ⟨rfl, rfl⟩)
    go_ret; exact ⟨by rw [HE.out, decide_eq_false (fun h => hk h.1)]; rfl, b0⟩
end Go.Proofs.YtklkhllkjnbhjaaGreatDoor
