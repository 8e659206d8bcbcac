/- Which writes are chosen: what the program's kept hands back. -/
import Derived.Test.YtmmgnpjhlmiafaaEncs
import Derived.Test.YtmmgnpjhlmiafaaKitR2
import Derived.Test.YtmmgnpjhlmiafaaMarksW
import Derived.Test.YtmmgnpjhlmiafaaToS
namespace Go.Proofs.Ytmmgnpjhlmiafaa
open Go.RowKit

/-- Is the number at this place odd? -/
def oddAt (ks : List Int) (i : Nat) : Bool := match ks[i]? with
  | some n => n.tmod 2 != 0
  | none => false
/-- The chosen ones of the first i writes. -/
def kptI (ws : List Wr) (ks : List Int) : Nat → List Wr
  | 0 => []
  | i + 1 => match ws[i]? with
    | some x => if oddAt ks i then kptI ws ks i ++ [x] else kptI ws ks i
    | none => kptI ws ks i
theorem kptI_length (ws : List Wr) (ks : List Int) (i : Nat) : (kptI ws ks i).length ≤ i := by
  induction i with
  | zero => simp [kptI]
  | succ i ih =>
    unfold kptI
    split
    · split
      · simp; omega
      · omega
    · omega
theorem kptI_mem {ws : List Wr} {ks : List Int} {i : Nat} {x : Wr} (h : x ∈ kptI ws ks i) : x ∈ ws := by
  induction i with
  | zero => simp [kptI] at h
  | succ i ih =>
    unfold kptI at h
    split at h
    · rename_i y hy
      split at h
      · rcases List.mem_append.1 h with h | h
        · exact ih h
        · simp at h; subst h; exact List.mem_of_getElem? hy
      · exact ih h
    · exact ih h
theorem kptI_yes {ws : List Wr} {ks : List Int} {i : Nat} (h : i < ws.length) (ho : oddAt ks i = true) : kptI ws ks (i + 1) = kptI ws ks i ++ [ws[i]] := by
  rw [kptI, List.getElem?_eq_getElem h]; simp [ho]
theorem kptI_no {ws : List Wr} {ks : List Int} {i : Nat} (ho : oddAt ks i = false) : kptI ws ks (i + 1) = kptI ws ks i := by
  rw [kptI]; split <;> simp [ho]
theorem oddAt_in {ks : List Int} {i : Nat} (h : i < ks.length) : oddAt ks i = (ks[i].tmod 2 != 0) := by unfold oddAt; rw [List.getElem?_eq_getElem h]
theorem oddAt_out {ks : List Int} {i : Nat} (h : ¬ i < ks.length) : oddAt ks i = false := by unfold oddAt; rw [List.getElem?_eq_none (by omega)]

set_option maxRecDepth 100000 in
set_option maxHeartbeats 2000000 in
theorem kept_any (ws : List Wr) (ks : List Int) (vw vk : Value) (w : World) (hw : Rows' wrE w vw ws) (hk : Rows' intE w vk ks) (hwl : ws.length ≤ 1048576) (_hkl : ks.length ≤ 1048576) :
    Calls Try.prog 30 #[vw, vk] w fun e w' => ∃ v', e = .returned v' ∧ RBuf wrE w.heap.size w w' v' (kptI ws ks ws.length) := by
  obtain ⟨aw, cw, rfl⟩ : ∃ (a : Option Addr) (c : Nat), vw = .slice a ws.length c := by
    rcases hw with ⟨e, a, c, rfl⟩ | ⟨g, o, c, rfl, _⟩
    · exact ⟨a, c, by rw [e]; rfl⟩
    · exact ⟨_, c, rfl⟩
  obtain ⟨ak, ck, rfl⟩ : ∃ (a : Option Addr) (c : Nat), vk = .slice a ks.length c := by
    rcases hk with ⟨e, a, c, rfl⟩ | ⟨g, o, c, rfl, _⟩
    · exact ⟨a, c, by rw [e]; rfl⟩
    · exact ⟨_, c, rfl⟩
  have HW := Lib.hid hw
  have HKK := Lib.hid hk
  clear hw hk
  go_enter Try.func30, Try.ntmps30
  go_wp2
  have H0 := Lib.hid (RBuf.fresh wrE w)
  go_loopw [5, 11] (fun tv iv wr => ∃ i : Nat, i ≤ ws.length ∧ iv = .int .i64 (i : Int) ∧ RBuf wrE w.heap.size w wr tv (kptI ws ks i)) (fun _ iv _ => ws.length - (intOf iv).toNat)
  case atStart => exact ⟨0, by omega, rfl, H0.out⟩
  case round =>
    obtain ⟨i, hi, rfl, hr⟩ := hrel
    obtain ⟨pt, ct, rfl⟩ := hr.form
    by_cases hlt : i < ws.length
    · obtain ⟨g, off, rfl, hcl⟩ := HW.out.at i hlt
      have d0 : wr.cell? ⟨g, off + i * 2, none⟩ = some (.int .i64 ws[i].at_) := hcl wr hr.bel 0 _ rfl
      have d1 : wr.cell? ⟨g, off + i * 2 + 1, none⟩ = some (.string ws[i].text) := hcl wr hr.bel 1 _ rfl
      have hyes := Lib.hid (kptI_yes (ks := ks) hlt)
      have hlk := kptI_length ws ks i
      clear hcl
      generalize ws[i] = x at *
      obtain ⟨na, t⟩ := x
      simp only at d0 d1
      have hi0 : (0 : Int) ≤ (i : Int) := by omega
      have hi1 : (i : Int) < (ws.length : Int) := by omega
      have HR := Lib.hid hr
      have bA : Below wr.heap.size wr (wr.alloc (.cells #[.int .i64 na, .string t] 49)) := (Below.refl _ _).alloc (Nat.le_refl _) _
      have RA := Lib.hid (hr.alloc (.cells #[.int .i64 na, .string t] 49))
      by_cases hik : i < ks.length
      · obtain ⟨gk, ok, rfl, hck⟩ := HKK.out.at i hik
        have e0 := hck _ (hr.bel.trans (bA.mono hr.bel.size)) 0 _ rfl
        rw [show intE.sz = 1 from rfl, Nat.mul_one, Nat.add_zero] at e0
        have hod := oddAt_in hik
        clear hck
        generalize ks[i] = kk at *
        have hk1 : (i : Int) < (ks.length : Int) := by omega
        cases ho : oddAt ks i with
        | true =>
          rw [ho] at hod
          have hq : (kk.tmod 2 != 0) = true := hod.symm
          have HY := Lib.hid (hyes.out ho)
          have r5 := (hr.alloc (.cells #[.int .i64 na, .string t] 49)).alloc (.cells #[.int .i64 na, .string t] 49)
          have R5 := Lib.hid r5
          have r5h := Lib.hid r5.here
          have hl1 : RBuf wrE (wr.heap.size + 1) ((wr.alloc (.cells #[.int .i64 na, .string t] 49)).alloc (.cells #[.int .i64 na, .string t] 49)) ((wr.alloc (.cells #[.int .i64 na, .string t] 49)).alloc (.cells #[.int .i64 na, .string t] 49)) (.slice (some ⟨wr.heap.size + 1, 0, none⟩) 1 1) [⟨na, t⟩] := by
            have := RBuf.lit1 wrE (wr.alloc (.cells #[.int .i64 na, .string t] 49)) ⟨na, t⟩
            rw [show (wr.alloc (.cells #[.int .i64 na, .string t] 49)).heap.size = wr.heap.size + 1 by simp] at this
            exact this
          have HL1 := Lib.hid hl1
          clear hod ho hyes hr r5 hl1
          go_wp2_with (at_builtin; refine wpList_append_rows rfl _ _ wrE rfl w.heap.size _ (kptI ws ks i) rfl r5h.out (wr.heap.size + 1) _ [⟨na, t⟩] rfl HL1.out (by simp [wrE]; omega) ?_; intro v6 w6 r6 g6 at6; obtain ⟨a6, q6, rfl⟩ := r6.form)
          have b6 : Below w.heap.size w w6 := R5.out.bel.grown g6 R5.out.le (fun k hk => (R5.out.own.lt k hk).1)
          have f6 : RBuf wrE w.heap.size w w6 (.slice a6 (kptI ws ks i ++ [(⟨na, t⟩ : Wr)]).length q6) (kptI ws ks (i + 1)) := by
            rw [HY.out]; exact ⟨r6.own, b6, r6.le⟩
          have e6 : (kptI ws ks i ++ [(⟨na, t⟩ : Wr)]).length = (kptI ws ks i).length + 1 := by simp
          rw [e6] at f6
          go_roundw
          case rel => exact ⟨i + 1, by omega, by go_num, f6⟩
          case measure => simp [intOf]; omega
        | false =>
          rw [ho] at hod
          have hq : (kk.tmod 2 != 0) = false := hod.symm
          have HN := Lib.hid (kptI_no (ws := ws) ho)
          clear hod ho hyes hr
          go_wp2
          go_roundw
          case rel => exact ⟨i + 1, by omega, by go_num, by rw [HN.out]; exact RA.out⟩
          case measure => simp [intOf]; omega
      · have HN := Lib.hid (kptI_no (ws := ws) (oddAt_out hik))
        have hk1 : ¬ (i : Int) < (ks.length : Int) := by omega
        clear hyes hr
        go_wp2
        go_roundw
        case rel => exact ⟨i + 1, by omega, by go_num, by rw [HN.out]; exact RA.out⟩
        case measure => simp [intOf]; omega
    · have hie : i = ws.length := by omega
      subst hie
      have HR := Lib.hid hr
      clear hr
      go_wp2
      go_ret
      exact ⟨_, rfl, HR.out⟩

end Go.Proofs.Ytmmgnpjhlmiafaa
