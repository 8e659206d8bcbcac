/- Texts of our own, joined. -/
import Derived.Test.YtieenkloiicnkaaJf
import Derived.Test.YtieenkloiicnkaaJe
import Derived.Laws.StructEq
import Derived.Deep.QuietTactic
import Derived.BigQuiet
import Derived.Deep.RegionHeld3
import Derived.Test.YtieenkloiicnkaaJa
import Derived.Deep.Slices
import Derived.Lib.SmallJoins
import Derived.ProofKit
import Derived.Test.YtieenkloiicnkaaJb
import Derived.Deep.SlicePairs
import Derived.Test.YtieenkloiicnkaaJd
/- Logs held against each other: SameLog of both. -/
namespace Go.Proofs.Ytieenkloiicnkaa
open Go.RowKit

/-- Whether something is so. -/
noncomputable def sameP (p : Prop) : Bool := @decide p (Classical.propDecidable p)
theorem sameP_yes {p : Prop} (h : p) : sameP p = true := @decide_eq_true _ (Classical.propDecidable _) h
theorem sameP_no {p : Prop} (h : ¬ p) : sameP p = false := @decide_eq_false _ (Classical.propDecidable _) h
theorem sameP_congr {p q : Prop} (h : p ↔ q) : sameP p = sameP q := by
  by_cases c : p
  · rw [sameP_yes c, sameP_yes (h.1 c)]
  · rw [sameP_no c, sameP_no (fun e => c (h.2 e))]
theorem listL_all {α : Type} {ms ns : List α} (hl : ms.length = ns.length) (h : ∀ (k : Nat) (x y : α), ms[k]? = some x → ns[k]? = some y → x = y) : ms = ns :=
  List.ext_getElem? fun i => by
    by_cases c : i < ms.length
    · have e1 : ms[i]? = some ms[i] := List.getElem?_eq_getElem c
      have e2 : ns[i]? = some (ns[i]'(by omega)) := List.getElem?_eq_getElem (by omega)
      rw [e1, e2, h i _ _ e1 e2]
    · rw [List.getElem?_eq_none (by omega), List.getElem?_eq_none (by omega)]
theorem ba_sameL (a b : ByteArray) : a.toList = b.toList ↔ a = b := by
  have h := ba_beq a b
  constructor
  · intro e
    rw [beq_iff_eq.2 e] at h
    exact of_decide_eq_true h.symm
  · intro e; rw [e]

theorem item_fieldsL : Try.prog.underlying 59 = some (.struct (Try.prog.fieldsOf 59)) := by kernel_rfl
theorem rec_fieldsL : Try.prog.underlying 57 = some (.struct (Try.prog.fieldsOf 57)) := by kernel_rfl

set_option maxRecDepth 100000 in
set_option maxHeartbeats 4000000 in
theorem run_recL (x y : Rc) (w : World) : (Op.equalIn 9999 57 (.agg #[.int .i64 x.kind, .int .i64 x.valid, .int .i64 x.uid, .int .i64 x.next, .int .i64 x.flags, .string x.user, .string x.name, .string x.text]) (.agg #[.int .i64 y.kind, .int .i64 y.valid, .int .i64 y.uid, .int .i64 y.next, .int .i64 y.flags, .string y.user, .string y.name, .string y.text])).run Try.prog w = .ok (sameP (x = y)) w := by
  rw [run_equalIn_agg _ 9998 _ _ _ rec_fieldsL (by kernel_rfl)]
  obtain ⟨a0, a1, a2, a3, a4, a5, a6, a7⟩ := x
  obtain ⟨b0, b1, b2, b3, b4, b5, b6, b7⟩ := y
  simp [go_sem, Op.eqFields, Try.underlying57, Program.fieldsOf]
  simp only [ba_sameL]
  by_cases h0 : a0 = b0
  case neg => rw [if_neg h0, sameP_no (fun e => h0 e.1)]
  rw [if_pos h0]
  by_cases h1 : a1 = b1
  case neg => rw [if_neg h1, sameP_no (fun e => h1 e.2.1)]
  rw [if_pos h1]
  by_cases h2 : a2 = b2
  case neg => rw [if_neg h2, sameP_no (fun e => h2 e.2.2.1)]
  rw [if_pos h2]
  by_cases h3 : a3 = b3
  case neg => rw [if_neg h3, sameP_no (fun e => h3 e.2.2.2.1)]
  rw [if_pos h3]
  by_cases h4 : a4 = b4
  case neg => rw [if_neg h4, sameP_no (fun e => h4 e.2.2.2.2.1)]
  rw [if_pos h4]
  by_cases h5 : a5 = b5
  case neg => rw [if_neg h5, sameP_no (fun e => h5 e.2.2.2.2.2.1)]
  rw [if_pos h5]
  by_cases h6 : a6 = b6
  case neg => rw [if_neg h6, sameP_no (fun e => h6 e.2.2.2.2.2.2.1)]
  rw [if_pos h6]
  by_cases h7 : a7 = b7
  case neg => rw [if_neg h7, sameP_no (fun e => h7 e.2.2.2.2.2.2.2)]
  rw [if_pos h7, sameP_yes ⟨h0, h1, h2, h3, h4, h5, h6, h7⟩]

set_option maxRecDepth 100000 in
set_option maxHeartbeats 2000000 in
theorem run_itemL (x y : Itm) (w : World) : (binOp .neq 59 (.agg #[.int .i64 x.1, .int .i64 x.2.kind, .int .i64 x.2.valid, .int .i64 x.2.uid, .int .i64 x.2.next, .int .i64 x.2.flags, .string x.2.user, .string x.2.name, .string x.2.text]) (.agg #[.int .i64 y.1, .int .i64 y.2.kind, .int .i64 y.2.valid, .int .i64 y.2.uid, .int .i64 y.2.next, .int .i64 y.2.flags, .string y.2.user, .string y.2.name, .string y.2.text])).run Try.prog w = .ok (.bool (!sameP (x = y))) w := by
  have h := run_recL x.2 y.2
  have h1 : (Op.equalIn 10000 59 (.agg #[.int .i64 x.1, .int .i64 x.2.kind, .int .i64 x.2.valid, .int .i64 x.2.uid, .int .i64 x.2.next, .int .i64 x.2.flags, .string x.2.user, .string x.2.name, .string x.2.text]) (.agg #[.int .i64 y.1, .int .i64 y.2.kind, .int .i64 y.2.valid, .int .i64 y.2.uid, .int .i64 y.2.next, .int .i64 y.2.flags, .string y.2.user, .string y.2.name, .string y.2.text])).run Try.prog w = .ok (sameP (x = y)) w := by
    rw [run_equalIn_agg _ 9999 _ _ _ item_fieldsL (by kernel_rfl)]
    by_cases h0 : x.1 = y.1
    · have e : sameP (x = y) = sameP (x.2 = y.2) := sameP_congr ⟨fun e => by rw [e], fun e => by obtain ⟨a, b⟩ := x; obtain ⟨c, d⟩ := y; simp only at h0 e; rw [h0, e]⟩
      rw [e]
      generalize sameP (x.2 = y.2) = D at h ⊢
      simp [go_sem, Op.eqFields, Try.underlying59, Program.fieldsOf, h, h0]
      try (cases D <;> rfl)
    · rw [sameP_no (fun e => h0 (by rw [e]))]
      simp [go_sem, Op.eqFields, Try.underlying59, Program.fieldsOf, h0]
  rw [run_neq_struct, h1]; rfl

set_option maxRecDepth 100000 in
set_option maxHeartbeats 4000000 in
theorem specSameSeg_any (x y : Sg) (a1 a2 : Option Addr) (n1 n2 c1 c2 : Nat) (w : World) (ha : Rows' itE w (.slice a1 n1 c1) x.items) (hb : Rows' itE w (.slice a2 n2 c2) y.items) (hl : x.items.length ≤ 1099511627776) :
    Calls Try.prog 11 #[.agg #[.int .i64 x.no, .int .i64 x.gen, .int .i64 x.ende, .slice a1 n1 c1], .agg #[.int .i64 y.no, .int .i64 y.gen, .int .i64 y.ende, .slice a2 n2 c2]] w fun e w' => e = .returned (.bool (sameP (x = y))) ∧ Below w.heap.size w w' := by
  obtain ⟨ad, cap, e, hrowa⟩ := ha.items
  cases e
  obtain ⟨ad2, cap2, e, hrowb⟩ := hb.items
  cases e
  have HA := Lib.hid hrowa
  have HB := Lib.hid hrowb
  clear ha hb hrowa hrowb
  obtain ⟨V, G, E, ms⟩ := x
  obtain ⟨V', G', E', ms'⟩ := y
  simp only at HA HB hl ⊢
  obtain ⟨D, hD⟩ : ∃ D, sameP ((⟨V, G, E, ms⟩ : Sg) = ⟨V', G', E', ms'⟩) = D := ⟨_, rfl⟩
  have HD := Lib.hid hD
  rw [hD]
  clear hD
  by_cases e3 : ms.length = ms'.length
  case neg =>
    have e3' : ¬ ((ms.length : Int) = (ms'.length : Int)) := by omega
    have HE : Hid (D = false) := by show D = false; rw [← HD.out]; exact sameP_no (fun e => e3 (by rw [(Sg.mk.inj e).2.2.2]))
    have b1 : Below w.heap.size w ((w.alloc (.cells #[.int .i64 V, .int .i64 G, .int .i64 E, .slice a1 ms.length c1] 44)).alloc (.cells #[.int .i64 V', .int .i64 G', .int .i64 E', .slice a2 ms'.length c2] 44)) := ((Below.refl _ _).alloc (Nat.le_refl _) _).alloc (by simp) _
    clear e3
    by_cases e0 : V = V'
    case neg =>
      go_enter Try.func11, Try.ntmps11
      go_wp2
      go_ret
      exact ⟨by rw [HE.out]; rfl, b1⟩
    subst e0
    by_cases e1 : G = G'
    case neg =>
      go_enter Try.func11, Try.ntmps11
      go_wp2
      go_ret
      exact ⟨by rw [HE.out]; rfl, b1⟩
    subst e1
    by_cases e2 : E = E'
    case neg =>
      go_enter Try.func11, Try.ntmps11
      go_wp2
      go_ret
      exact ⟨by rw [HE.out]; rfl, b1⟩
    subst e2
    go_enter Try.func11, Try.ntmps11
    go_wp2
    go_ret
    exact ⟨by rw [HE.out]; rfl, b1⟩
  obtain ⟨n, hn⟩ : ∃ n, ms.length = n := ⟨_, rfl⟩
  have hm : ms'.length = n := by omega
  have HN := Lib.hid hn
  have HM := Lib.hid hm
  rw [hn] at hl
  rw [hn, hm]
  clear hn hm e3
  have b1 : Below w.heap.size w ((w.alloc (.cells #[.int .i64 V, .int .i64 G, .int .i64 E, .slice a1 n c1] 44)).alloc (.cells #[.int .i64 V', .int .i64 G', .int .i64 E', .slice a2 n c2] 44)) := ((Below.refl _ _).alloc (Nat.le_refl _) _).alloc (by simp) _
  by_cases e0 : V = V'
  case neg =>
    go_enter Try.func11, Try.ntmps11
    go_wp2
    go_ret
    exact ⟨by rw [← HD.out, sameP_no (fun e => e0 (Sg.mk.inj e).1)]; rfl, b1⟩
  subst e0
  by_cases e1 : G = G'
  case neg =>
    go_enter Try.func11, Try.ntmps11
    go_wp2
    go_ret
    exact ⟨by rw [← HD.out, sameP_no (fun e => e1 (Sg.mk.inj e).2.1)]; rfl, b1⟩
  subst e1
  by_cases e2 : E = E'
  case neg =>
    go_enter Try.func11, Try.ntmps11
    go_wp2
    go_ret
    exact ⟨by rw [← HD.out, sameP_no (fun e => e2 (Sg.mk.inj e).2.2.1)]; rfl, b1⟩
  subst e2
  have X2 := (Box.new w #[.int .i64 V, .int .i64 G, .int .i64 E, .slice a1 n c1] 44).later (belNew _ (.cells #[.int .i64 V, .int .i64 G, .int .i64 E, .slice a2 n c2] 44))
  have X3 : Box ((w.alloc (.cells #[.int .i64 V, .int .i64 G, .int .i64 E, .slice a1 n c1] 44)).alloc (.cells #[.int .i64 V, .int .i64 G, .int .i64 E, .slice a2 n c2] 44)) (w.heap.size + 1) #[.int .i64 V, .int .i64 G, .int .i64 E, .slice a2 n c2] 44 := by
    have := Box.new (w.alloc (.cells #[.int .i64 V, .int .i64 G, .int .i64 E, .slice a1 n c1] 44)) #[.int .i64 V, .int .i64 G, .int .i64 E, .slice a2 n c2] 44
    rwa [show (w.alloc (.cells #[.int .i64 V, .int .i64 G, .int .i64 E, .slice a1 n c1] 44)).heap.size = w.heap.size + 1 from by simp] at this
  go_enter Try.func11, Try.ntmps11
  go_wp2
  generalize (w.alloc (.cells #[.int .i64 V, .int .i64 G, .int .i64 E, .slice a1 n c1] 44)).alloc (.cells #[.int .i64 V, .int .i64 G, .int .i64 E, .slice a2 n c2] 44) = w1 at b1 X2 X3 ⊢
  have BW := Lib.hid b1
  clear b1
  generalize w.heap.size + 1 = g3 at X3 ⊢
  generalize hg2 : w.heap.size = g2 at X2 ⊢
  clear hg2
  go_loopw [5] (fun iv wr => ∃ i : Nat, i ≤ n ∧ iv = .int .i64 (i : Int) ∧ (∀ (j : Nat) (x y : Itm), ms[j]? = some x → ms'[j]? = some y → j < i → x = y) ∧ Below w1.heap.size w1 wr) (fun iv _ => n - (intOf iv).toNat)
  case atStart => exact ⟨0, by omega, rfl, fun j x y _ _ hj => by omega, Below.refl _ _⟩
  case round =>
    obtain ⟨i, hi, rfl, hU, hb⟩ := hrel
    have HU := Lib.hid hU
    clear hU
    have Y2 : wr.cell? ⟨g2, 3, none⟩ = some (.slice a1 n c1) := (X2.later hb).cell 3 _ rfl
    have Y3 : wr.cell? ⟨g3, 3, none⟩ = some (.slice a2 n c2) := (X3.later hb).cell 3 _ rfl
    by_cases hlt : i < n
    · obtain ⟨x, hgx⟩ : ∃ x, ms[i]? = some x := ⟨_, List.getElem?_eq_getElem (by rw [HN.out]; exact hlt)⟩
      obtain ⟨y, hgy⟩ : ∃ y, ms'[i]? = some y := ⟨_, List.getElem?_eq_getElem (by rw [HM.out]; exact hlt)⟩
      have bW : Below w.heap.size w wr := BW.out.trans (hb.mono BW.out.size)
      obtain ⟨ga, oa, rfl, p0, p1, p2, p3, p4, p5, p6, p7, p8⟩ := HA.out _ bW i _ hgx
      obtain ⟨gb, ob, rfl, q0, q1, q2, q3, q4, q5, q6, q7, q8⟩ := HB.out _ bW i _ hgy
      have HX := Lib.hid hgx
      have HY := Lib.hid hgy
      clear hgx hgy bW
      have hi0 : (0 : Int) ≤ (i : Int) := by omega
      have hi1 : (i : Int) < (n : Int) := by omega
      have hneq := run_itemL x y
      by_cases hxy : x = y
      · have HXY := Lib.hid hxy
        rw [sameP_yes hxy] at hneq
        simp only [Bool.not_true] at hneq
        clear hxy
        go_wp2
        go_quiet (fail)
        go_wp2
        go_roundw
        case rel => exact ⟨i + 1, by omega, by go_num, fun j u v h1 h2 hj => by
          by_cases c : j = i
          · subst c
            have e1 := HX.out; have e2 := HY.out; rw [h1] at e1; rw [h2] at e2; cases e1; cases e2
            exact HXY.out
          · exact HU.out j u v h1 h2 (by omega), hb.trans ⟨rfl, rfl, rfl, Nat.le_refl _, fun _ _ => rfl⟩⟩
        case measure => simp [intOf]; omega
      · rw [sameP_no hxy] at hneq
        simp only [Bool.not_false] at hneq
        have HE : Hid (D = false) := by
          show D = false
          rw [← HD.out]
          exact sameP_no (fun e => hxy (by
            have e4 := (Sg.mk.inj e).2.2.2
            have e1 := HX.out
            rw [e4, HY.out] at e1
            exact (Option.some.inj e1).symm))
        clear hxy
        go_wp2
        go_quiet (fail)
        go_wp2
        go_ret
        exact ⟨by rw [HE.out]; rfl, (BW.out.trans (hb.mono BW.out.size)).trans ⟨rfl, rfl, rfl, by have := BW.out.size; have := hb.size; exact Nat.le_refl _, fun _ _ => rfl⟩⟩
    · have HE : Hid (D = true) := by
        show D = true
        rw [← HD.out]
        have e4 : ms = ms' := listL_all (HN.out.trans HM.out.symm) (fun j x y h1 h2 => HU.out j x y h1 h2 (by have := (List.getElem?_eq_some_iff.1 h1).1; have := HN.out; omega))
        exact sameP_yes (by rw [e4])
      go_wp2
      go_ret
      exact ⟨by rw [HE.out]; rfl, BW.out.trans (hb.mono BW.out.size)⟩

end Go.Proofs.Ytieenkloiicnkaa

/- Logs held against each other: SameLog of both, the whole of it. -/
namespace Go.Proofs.Ytieenkloiicnkaa
open Go.RowKit

set_option maxRecDepth 100000 in
set_option maxHeartbeats 4000000 in
theorem equalItems_any (ms ms' : List Itm) (va vb : Value) (w : World) (ha : Rows' itE w va ms) (hb : Rows' itE w vb ms') (hl : ms.length ≤ 1099511627776) :
    Calls Try.prog 24 #[va, vb] w fun e w' => e = .returned (.bool (sameP (ms = ms'))) ∧ Below w.heap.size w w' := by
  obtain ⟨ad, cap, rfl, hrowa⟩ := ha.items
  obtain ⟨ad2, cap2, rfl, hrowb⟩ := hb.items
  have HA := Lib.hid hrowa
  have HB := Lib.hid hrowb
  clear ha hb hrowa hrowb
  obtain ⟨D, hD⟩ : ∃ D, sameP (ms = ms') = D := ⟨_, rfl⟩
  have HD := Lib.hid hD
  rw [hD]
  clear hD
  by_cases e3 : ms.length = ms'.length
  case neg =>
    have e3' : ¬ ((ms.length : Int) = (ms'.length : Int)) := by omega
    have HE : Hid (D = false) := by show D = false; rw [← HD.out]; exact sameP_no (fun e => e3 (by rw [e]))
    clear e3
    go_enter Try.func24, Try.ntmps24
    go_wp2
    go_ret
    exact ⟨by rw [HE.out]; rfl, Below.refl _ _⟩
  obtain ⟨n, hn⟩ : ∃ n, ms.length = n := ⟨_, rfl⟩
  have hm : ms'.length = n := by omega
  have HN := Lib.hid hn
  have HM := Lib.hid hm
  rw [hn] at hl
  rw [hn, hm]
  clear hn hm e3
  go_enter Try.func24, Try.ntmps24
  go_wp2
  go_loopw [13] (fun iv wr => ∃ i : Nat, i ≤ n ∧ iv = .int .i64 (i : Int) ∧ (∀ (j : Nat) (x y : Itm), ms[j]? = some x → ms'[j]? = some y → j < i → x = y) ∧ Below w.heap.size w wr) (fun iv _ => n - (intOf iv).toNat)
  case atStart => exact ⟨0, by omega, rfl, fun j x y _ _ hj => by omega, Below.refl _ _⟩
  case round =>
    obtain ⟨i, hi, rfl, hU, hb⟩ := hrel
    have HU := Lib.hid hU
    clear hU
    by_cases hlt : i < n
    · obtain ⟨x, hgx⟩ : ∃ x, ms[i]? = some x := ⟨_, List.getElem?_eq_getElem (by rw [HN.out]; exact hlt)⟩
      obtain ⟨y, hgy⟩ : ∃ y, ms'[i]? = some y := ⟨_, List.getElem?_eq_getElem (by rw [HM.out]; exact hlt)⟩
      obtain ⟨ga, oa, rfl, p0, p1, p2, p3, p4, p5, p6, p7, p8⟩ := HA.out _ hb i _ hgx
      obtain ⟨gb, ob, rfl, q0, q1, q2, q3, q4, q5, q6, q7, q8⟩ := HB.out _ hb i _ hgy
      have HX := Lib.hid hgx
      have HY := Lib.hid hgy
      clear hgx hgy
      have hi0 : (0 : Int) ≤ (i : Int) := by omega
      have hi1 : (i : Int) < (n : Int) := by omega
      have hneq := run_itemL x y
      by_cases hxy : x = y
      · have HXY := Lib.hid hxy
        rw [sameP_yes hxy] at hneq
        simp only [Bool.not_true] at hneq
        clear hxy
        go_wp2
        go_quiet (fail)
        go_wp2
        go_roundw
        case rel => exact ⟨i + 1, by omega, by go_num, fun j u v h1 h2 hj => by
          by_cases c : j = i
          · subst c
            have e1 := HX.out; have e2 := HY.out; rw [h1] at e1; rw [h2] at e2; cases e1; cases e2
            exact HXY.out
          · exact HU.out j u v h1 h2 (by omega), hb.trans ⟨rfl, rfl, rfl, Nat.le_refl _, fun _ _ => rfl⟩⟩
        case measure => simp [intOf]; omega
      · rw [sameP_no hxy] at hneq
        simp only [Bool.not_false] at hneq
        have HE : Hid (D = false) := by
          show D = false
          rw [← HD.out]
          exact sameP_no (fun e4 => hxy (by
            have e1 := HX.out
            rw [e4, HY.out] at e1
            exact (Option.some.inj e1).symm))
        clear hxy
        go_wp2
        go_quiet (fail)
        go_wp2
        go_ret
        exact ⟨by rw [HE.out]; rfl, hb.trans ⟨rfl, rfl, rfl, Nat.le_refl _, fun _ _ => rfl⟩⟩
    · have HE : Hid (D = true) := by
        show D = true
        rw [← HD.out]
        exact sameP_yes (listL_all (HN.out.trans HM.out.symm) (fun j x y h1 h2 => HU.out j x y h1 h2 (by have := (List.getElem?_eq_some_iff.1 h1).1; have := HN.out; omega)))
      go_wp2
      go_ret
      exact ⟨by rw [HE.out]; rfl, hb⟩

set_option maxRecDepth 100000 in
set_option maxHeartbeats 2000000 in
theorem sameSeg_any (x y : Sg) (a1 a2 : Option Addr) (n1 n2 c1 c2 : Nat) (w : World) (ha : Rows' itE w (.slice a1 n1 c1) x.items) (hb : Rows' itE w (.slice a2 n2 c2) y.items) (hl : x.items.length ≤ 1099511627776) :
    Calls Try.prog 15 #[.agg #[.int .i64 x.no, .int .i64 x.gen, .int .i64 x.ende, .slice a1 n1 c1], .agg #[.int .i64 y.no, .int .i64 y.gen, .int .i64 y.ende, .slice a2 n2 c2]] w fun e w' => e = .returned (.bool (sameP (x = y))) ∧ Below w.heap.size w w' := by
  have b1 : Below w.heap.size w ((w.alloc (.cells #[.int .i64 x.no, .int .i64 x.gen, .int .i64 x.ende, .slice a1 n1 c1] 44)).alloc (.cells #[.int .i64 y.no, .int .i64 y.gen, .int .i64 y.ende, .slice a2 n2 c2] 44)) := ((Below.refl _ _).alloc (Nat.le_refl _) _).alloc (by simp) _
  have HE := Lib.hid (fun wx (hx : Below w.heap.size w wx) => equalItems_any x.items y.items _ _ wx (ha.later hx) (hb.later hx) hl)
  clear ha hb
  obtain ⟨V, G, E, ms⟩ := x
  obtain ⟨V', G', E', ms'⟩ := y
  simp only at HE b1 ⊢
  obtain ⟨D, hD⟩ : ∃ D, sameP ((⟨V, G, E, ms⟩ : Sg) = ⟨V', G', E', ms'⟩) = D := ⟨_, rfl⟩
  have HD := Lib.hid hD
  rw [hD]
  clear hD
  by_cases e0 : V = V'
  case neg =>
    go_enter Try.func15, Try.ntmps15
    go_wp2
    go_ret
    exact ⟨by rw [← HD.out, sameP_no (fun e => e0 (Sg.mk.inj e).1)]; rfl, b1⟩
  subst e0
  by_cases e1 : G = G'
  case neg =>
    go_enter Try.func15, Try.ntmps15
    go_wp2
    go_ret
    exact ⟨by rw [← HD.out, sameP_no (fun e => e1 (Sg.mk.inj e).2.1)]; rfl, b1⟩
  subst e1
  by_cases e2 : E = E'
  case neg =>
    go_enter Try.func15, Try.ntmps15
    go_wp2
    go_ret
    exact ⟨by rw [← HD.out, sameP_no (fun e => e2 (Sg.mk.inj e).2.2.1)]; rfl, b1⟩
  subst e2
  have HS : sameP (ms = ms') = D := (sameP_congr ⟨fun e => by rw [e], fun e => (Sg.mk.inj e).2.2.2⟩).trans HD.out
  rw [HS] at HE
  clear HS
  go_enter Try.func15, Try.ntmps15
  go_wp2_with (go_at_call 24; refine (HE.out _ b1).mono ?_; rintro e w1 ⟨rfl, k1⟩)
  go_ret
  exact ⟨rfl, b1.trans (k1.mono b1.size)⟩

set_option maxRecDepth 100000 in
set_option maxHeartbeats 4000000 in
theorem equalSegs_any (ps qs : List Sg) (va vb : Value) (w : World) (ha : GRd w va ps) (hb : GRd w vb qs) (hla : ps.length ≤ 1099511627776) (hma : ∀ b ∈ ps, b.items.length ≤ 1099511627776) :
    Calls Try.prog 14 #[va, vb, .func (.func 15) #[] #[]] w fun e w' => e = .returned (.bool (sameP (ps = qs))) ∧ Below w.heap.size w w' := by
  obtain ⟨ad, cap, rfl, hrowa⟩ := ha.segs
  obtain ⟨ad2, cap2, rfl, hrowb⟩ := hb.segs
  have HRA := Lib.hid ha
  have HRB := Lib.hid hb
  have HA := Lib.hid hrowa
  have HB := Lib.hid hrowb
  have HMA := Lib.hid hma
  clear ha hb hrowa hrowb hma
  obtain ⟨D, hD⟩ : ∃ D, sameP (ps = qs) = D := ⟨_, rfl⟩
  have HD := Lib.hid hD
  rw [hD]
  clear hD
  by_cases hlen : ps.length = qs.length
  case neg =>
    have hne : ¬ ((ps.length : Int) = (qs.length : Int)) := by omega
    go_enter Try.func14, Try.ntmps14
    go_wp2
    go_ret
    exact ⟨by rw [← HD.out, sameP_no (fun e => hlen (by rw [e]))]; rfl, Below.refl _ _⟩
  obtain ⟨n, hn⟩ : ∃ n, ps.length = n := ⟨_, rfl⟩
  have hm : qs.length = n := by omega
  have HN := Lib.hid hn
  have HM := Lib.hid hm
  rw [hn] at hla
  rw [hn, hm]
  clear hn hm hlen
  go_enter Try.func14, Try.ntmps14
  go_wp2
  go_loopw [17] (fun iv wr => ∃ i : Nat, i ≤ n ∧ iv = .int .i64 (i : Int) ∧ (∀ (j : Nat) (x y : Sg), ps[j]? = some x → qs[j]? = some y → j < i → x = y) ∧ Below w.heap.size w wr) (fun iv _ => n - (intOf iv).toNat)
  case atStart => exact ⟨0, by omega, rfl, fun j x y _ _ hj => by omega, Below.refl _ _⟩
  case round =>
    obtain ⟨i, hi, rfl, hU, hb⟩ := hrel
    have HU := Lib.hid hU
    clear hU
    by_cases hlt : i < n
    · obtain ⟨x, hgx⟩ : ∃ x, ps[i]? = some x := ⟨_, List.getElem?_eq_getElem (by rw [HN.out]; exact hlt)⟩
      obtain ⟨y, hgy⟩ : ∃ y, qs[i]? = some y := ⟨_, List.getElem?_eq_getElem (by rw [HM.out]; exact hlt)⟩
      obtain ⟨gp, op, a1, n1, c1, rfl, p0, p1, p2, p3, ra⟩ := HA.out _ hb i _ hgx
      obtain ⟨gq, oq, a2, n2, c2, rfl, q0, q1, q2, q3, rb⟩ := HB.out _ (hb.trans ((belNew _ (.cells #[.int .i64 x.no, .int .i64 x.gen, .int .i64 x.ende, .slice a1 n1 c1] 44)).mono hb.size)) i _ hgy
      have b2 : Below w.heap.size w ((wr.alloc (.cells #[.int .i64 x.no, .int .i64 x.gen, .int .i64 x.ende, .slice a1 n1 c1] 44)).alloc (.cells #[.int .i64 y.no, .int .i64 y.gen, .int .i64 y.ende, .slice a2 n2 c2] 44)) := (hb.alloc hb.size _).alloc (by simp; have := hb.size; omega) _
      have HS := Lib.hid (sameSeg_any x y a1 a2 n1 n2 c1 c2 _ (ra.later b2) (rb.later b2) (HMA.out x (List.mem_of_getElem? hgx)))
      have HX := Lib.hid hgx
      have HY := Lib.hid hgy
      clear hgx hgy ra rb
      have hi0 : (0 : Int) ≤ (i : Int) := by omega
      have hi1 : (i : Int) < (n : Int) := by omega
      by_cases hxy : x = y
      · have HXY := Lib.hid hxy
        rw [sameP_yes hxy] at HS
        clear hxy
        go_wp2_with (go_at_call 15; refine HS.out.mono ?_; rintro e w1 ⟨rfl, k1⟩)
        go_roundw
        case rel => exact ⟨i + 1, by omega, by go_num, fun j u v h1 h2 hj => by
          by_cases c : j = i
          · subst c
            have e1 := HX.out; have e2 := HY.out; rw [h1] at e1; rw [h2] at e2; cases e1; cases e2
            exact HXY.out
          · exact HU.out j u v h1 h2 (by omega), b2.trans (k1.mono b2.size)⟩
        case measure => simp [intOf]; omega
      · rw [sameP_no hxy] at HS
        have HE : Hid (D = false) := by
          show D = false
          rw [← HD.out]
          exact sameP_no (fun e4 => hxy (by
            have e1 := HX.out
            rw [e4, HY.out] at e1
            exact (Option.some.inj e1).symm))
        clear hxy
        go_wp2_with (go_at_call 15; refine HS.out.mono ?_; rintro e w1 ⟨rfl, k1⟩)
        go_ret
        exact ⟨by rw [HE.out]; rfl, b2.trans (k1.mono b2.size)⟩
    · have HE : Hid (D = true) := by
        show D = true
        rw [← HD.out]
        exact sameP_yes (listL_all (HN.out.trans HM.out.symm) (fun j x y h1 h2 => HU.out j x y h1 h2 (by have := (List.getElem?_eq_some_iff.1 h1).1; have := HN.out; omega)))
      go_wp2
      go_ret
      exact ⟨by rw [HE.out]; rfl, hb⟩

/-- The same log, as far as it is asked. -/
def Lg.same (a b : Lg) : Prop := a.used = b.used ∧ a.ng = b.ng ∧ a.ns = b.ns ∧ a.nv = b.nv

set_option maxRecDepth 100000 in
set_option maxHeartbeats 2000000 in
theorem implSameLog_any (L M : Lg) (v1 v2 : Value) (w : World) (h1 : LRd w v1 L) (h2 : LRd w v2 M) (hl : L.used.length ≤ 1099511627776) (hm : ∀ b ∈ L.used, b.items.length ≤ 1099511627776) :
    Calls Try.prog 7 #[v1, v2] w fun e w' => e = .returned (.bool (sameP (L.same M))) ∧ Below w.heap.size w w' := by
  obtain ⟨va, vb, vu, rfl, _, ha⟩ := h1
  obtain ⟨vc, vd, vx, rfl, _, hb⟩ := h2
  have b1 : Below w.heap.size w ((w.alloc (.cells #[va, vb, .int .i64 L.segs, vu, .int .i64 L.ng, .int .i64 L.ns, .int .i64 L.st, .int .i64 L.nv] 36)).alloc (.cells #[vc, vd, .int .i64 M.segs, vx, .int .i64 M.ng, .int .i64 M.ns, .int .i64 M.st, .int .i64 M.nv] 36)) := ((Below.refl _ _).alloc (Nat.le_refl _) _).alloc (by simp) _
  have HE := Lib.hid (fun wx (hx : Below w.heap.size w wx) => equalSegs_any L.used M.used _ _ wx (ha.later hx) (hb.later hx) hl hm)
  clear ha hb
  obtain ⟨d1, s1, u1, g1, n1, t1, x1⟩ := L
  obtain ⟨d2, s2, u2, g2, n2, t2, x2⟩ := M
  unfold Lg.same
  simp only at HE b1 hl hm ⊢
  clear hl hm
  obtain ⟨D, hD⟩ : ∃ D, sameP (u1 = u2 ∧ g1 = g2 ∧ n1 = n2 ∧ x1 = x2) = D := ⟨_, rfl⟩
  have HD := Lib.hid hD
  rw [hD]
  clear hD
  by_cases e0 : g1 = g2
  case neg =>
    go_enter Try.func7, Try.ntmps7
    go_wp2
    go_ret
    exact ⟨by rw [← HD.out, sameP_no (fun e => e0 e.2.1)]; rfl, b1⟩
  subst e0
  by_cases e1 : n1 = n2
  case neg =>
    go_enter Try.func7, Try.ntmps7
    go_wp2
    go_ret
    exact ⟨by rw [← HD.out, sameP_no (fun e => e1 e.2.2.1)]; rfl, b1⟩
  subst e1
  by_cases e2 : x1 = x2
  case neg =>
    go_enter Try.func7, Try.ntmps7
    go_wp2
    go_ret
    exact ⟨by rw [← HD.out, sameP_no (fun e => e2 e.2.2.2)]; rfl, b1⟩
  subst e2
  have HS : sameP (u1 = u2) = D := (sameP_congr ⟨fun e => ⟨e, rfl, rfl, rfl⟩, fun e => e.1⟩).trans HD.out
  rw [HS] at HE
  clear HS
  go_enter Try.func7, Try.ntmps7
  go_wp2_with (go_at_call 14; refine (HE.out _ b1).mono ?_; rintro e w1 ⟨rfl, k1⟩)
  go_ret
  exact ⟨rfl, b1.trans (k1.mono b1.size)⟩

set_option maxRecDepth 100000 in
set_option maxHeartbeats 4000000 in
theorem specSameLog_any (L M : Lg) (v1 v2 : Value) (w : World) (h1 : LRd w v1 L) (h2 : LRd w v2 M) (hl : L.used.length ≤ 1099511627776) (hm : ∀ b ∈ L.used, b.items.length ≤ 1099511627776) :
    Calls Try.prog 5 #[v1, v2] w fun e w' => e = .returned (.bool (sameP (L.same M))) ∧ Below w.heap.size w w' := by
  obtain ⟨va, vb, vu, rfl, _, ha⟩ := h1
  obtain ⟨vc, vd, vx, rfl, _, hb⟩ := h2
  obtain ⟨ad, cap, rfl, hrowa⟩ := ha.segs
  obtain ⟨ad2, cap2, rfl, hrowb⟩ := hb.segs
  have HA := Lib.hid hrowa
  have HB := Lib.hid hrowb
  have HMA := Lib.hid hm
  clear ha hb hrowa hrowb hm
  obtain ⟨D, hD⟩ : ∃ D, sameP (L.same M) = D := ⟨_, rfl⟩
  have HD := Lib.hid hD
  rw [hD]
  clear hD
  obtain ⟨d1, s1, ps, g1, m1, t1, x1⟩ := L
  obtain ⟨d2, s2, qs, g2, m2, t2, x2⟩ := M
  unfold Lg.same at HD
  simp only at HA HB HD HMA hl ⊢
  have b0 : Below w.heap.size w ((w.alloc (.cells #[va, vb, .int .i64 s1, .slice ad ps.length cap, .int .i64 g1, .int .i64 m1, .int .i64 t1, .int .i64 x1] 36)).alloc (.cells #[vc, vd, .int .i64 s2, .slice ad2 qs.length cap2, .int .i64 g2, .int .i64 m2, .int .i64 t2, .int .i64 x2] 36)) := ((Below.refl _ _).alloc (Nat.le_refl _) _).alloc (by simp) _
  by_cases hlen : ps.length = qs.length
  case neg =>
    have hne : ¬ ((ps.length : Int) = (qs.length : Int)) := by omega
    have HE : Hid (D = false) := by show D = false; rw [← HD.out]; exact sameP_no (fun e => hlen (by rw [e.1]))
    clear hlen
    go_enter Try.func5, Try.ntmps5
    go_wp2
    go_ret
    exact ⟨by rw [HE.out]; rfl, b0⟩
  obtain ⟨n, hn⟩ : ∃ n, ps.length = n := ⟨_, rfl⟩
  have hm' : qs.length = n := by omega
  have HN := Lib.hid hn
  have HM := Lib.hid hm'
  rw [hn] at hl b0
  rw [hm'] at b0
  rw [hn, hm']
  clear hn hm' hlen
  by_cases e0 : g1 = g2
  case neg =>
    go_enter Try.func5, Try.ntmps5
    go_wp2
    go_ret
    exact ⟨by rw [← HD.out, sameP_no (fun e => e0 e.2.1)]; rfl, b0⟩
  subst e0
  by_cases e1 : m1 = m2
  case neg =>
    go_enter Try.func5, Try.ntmps5
    go_wp2
    go_ret
    exact ⟨by rw [← HD.out, sameP_no (fun e => e1 e.2.2.1)]; rfl, b0⟩
  subst e1
  by_cases e2 : x1 = x2
  case neg =>
    go_enter Try.func5, Try.ntmps5
    go_wp2
    go_ret
    exact ⟨by rw [← HD.out, sameP_no (fun e => e2 e.2.2.2)]; rfl, b0⟩
  subst e2
  have X2 := (Box.new w #[va, vb, .int .i64 s1, .slice ad n cap, .int .i64 g1, .int .i64 m1, .int .i64 t1, .int .i64 x1] 36).later (belNew _ (.cells #[vc, vd, .int .i64 s2, .slice ad2 n cap2, .int .i64 g1, .int .i64 m1, .int .i64 t2, .int .i64 x1] 36))
  have X3 : Box ((w.alloc (.cells #[va, vb, .int .i64 s1, .slice ad n cap, .int .i64 g1, .int .i64 m1, .int .i64 t1, .int .i64 x1] 36)).alloc (.cells #[vc, vd, .int .i64 s2, .slice ad2 n cap2, .int .i64 g1, .int .i64 m1, .int .i64 t2, .int .i64 x1] 36)) (w.heap.size + 1) #[vc, vd, .int .i64 s2, .slice ad2 n cap2, .int .i64 g1, .int .i64 m1, .int .i64 t2, .int .i64 x1] 36 := by
    have := Box.new (w.alloc (.cells #[va, vb, .int .i64 s1, .slice ad n cap, .int .i64 g1, .int .i64 m1, .int .i64 t1, .int .i64 x1] 36)) #[vc, vd, .int .i64 s2, .slice ad2 n cap2, .int .i64 g1, .int .i64 m1, .int .i64 t2, .int .i64 x1] 36
    rwa [show (w.alloc (.cells #[va, vb, .int .i64 s1, .slice ad n cap, .int .i64 g1, .int .i64 m1, .int .i64 t1, .int .i64 x1] 36)).heap.size = w.heap.size + 1 from by simp] at this
  go_enter Try.func5, Try.ntmps5
  go_wp2
  generalize (w.alloc (.cells #[va, vb, .int .i64 s1, .slice ad n cap, .int .i64 g1, .int .i64 m1, .int .i64 t1, .int .i64 x1] 36)).alloc (.cells #[vc, vd, .int .i64 s2, .slice ad2 n cap2, .int .i64 g1, .int .i64 m1, .int .i64 t2, .int .i64 x1] 36) = w1 at b0 X2 X3 ⊢
  have BW := Lib.hid b0
  clear b0
  generalize w.heap.size + 1 = g3 at X3 ⊢
  generalize hg2 : w.heap.size = gg at X2 ⊢
  clear hg2
  go_loopw [5] (fun iv wr => ∃ i : Nat, i ≤ n ∧ iv = .int .i64 (i : Int) ∧ (∀ (j : Nat) (x y : Sg), ps[j]? = some x → qs[j]? = some y → j < i → x = y) ∧ Below w1.heap.size w1 wr) (fun iv _ => n - (intOf iv).toNat)
  case atStart => exact ⟨0, by omega, rfl, fun j x y _ _ hj => by omega, Below.refl _ _⟩
  case round =>
    obtain ⟨i, hi, rfl, hU, hb⟩ := hrel
    have HU := Lib.hid hU
    clear hU
    have Y2 : wr.cell? ⟨gg, 3, none⟩ = some (.slice ad n cap) := (X2.later hb).cell 3 _ rfl
    by_cases hlt : i < n
    · obtain ⟨x, hgx⟩ : ∃ x, ps[i]? = some x := ⟨_, List.getElem?_eq_getElem (by rw [HN.out]; exact hlt)⟩
      obtain ⟨y, hgy⟩ : ∃ y, qs[i]? = some y := ⟨_, List.getElem?_eq_getElem (by rw [HM.out]; exact hlt)⟩
      have bD : Below w1.heap.size w1 wr.drew := hb.drew
      have bW : Below w.heap.size w wr.drew := BW.out.trans (bD.mono BW.out.size)
      obtain ⟨gp, op, a1, n1, c1, rfl, p0, p1, p2, p3, ra⟩ := HA.out _ bW i _ hgx
      obtain ⟨gq, oq, a2, n2, c2, rfl, q0, q1, q2, q3, rb⟩ := HB.out _ bW i _ hgy
      have Z2 : wr.drew.cell? ⟨gg, 3, none⟩ = some (.slice (some ⟨gp, op, none⟩) n cap) := (X2.later bD).cell 3 _ rfl
      have Z3 : wr.drew.cell? ⟨g3, 3, none⟩ = some (.slice (some ⟨gq, oq, none⟩) n cap2) := (X3.later bD).cell 3 _ rfl
      have HS : Hid (∀ X, Below wr.drew.heap.size wr.drew X → (X.cell? ⟨gp, op + i * 4, none⟩ = some (.int .i64 x.no) ∧ X.cell? ⟨gp, op + i * 4 + 1, none⟩ = some (.int .i64 x.gen) ∧ X.cell? ⟨gp, op + i * 4 + 2, none⟩ = some (.int .i64 x.ende) ∧ X.cell? ⟨gp, op + i * 4 + 3, none⟩ = some (.slice a1 n1 c1) ∧
          X.cell? ⟨gq, oq + i * 4, none⟩ = some (.int .i64 y.no) ∧ X.cell? ⟨gq, oq + i * 4 + 1, none⟩ = some (.int .i64 y.gen) ∧ X.cell? ⟨gq, oq + i * 4 + 2, none⟩ = some (.int .i64 y.ende) ∧ X.cell? ⟨gq, oq + i * 4 + 3, none⟩ = some (.slice a2 n2 c2)) ∧ X.cell? ⟨gg, 3, none⟩ = some (.slice (some ⟨gp, op, none⟩) n cap) ∧ X.cell? ⟨g3, 3, none⟩ = some (.slice (some ⟨gq, oq, none⟩) n cap2)) := by
        intro X hX
        have cc : ∀ {g o : Nat} {u : Value}, wr.drew.cell? ⟨g, o, none⟩ = some u → X.cell? ⟨g, o, none⟩ = some u := fun {g o u} h => (hX.cell (p := ⟨g, o, none⟩) (World.block_lt_of_cell? _ _ h)).trans h
        exact ⟨⟨cc p0, cc p1, cc p2, cc p3, cc q0, cc q1, cc q2, cc q3⟩, cc Z2, cc Z3⟩
      have HE := Lib.hid (fun wx (hx : Below w.heap.size w wx) => specSameSeg_any x y a1 a2 n1 n2 c1 c2 wx (ra.later hx) (rb.later hx) (HMA.out x (List.mem_of_getElem? hgx)))
      have HX := Lib.hid hgx
      have HY := Lib.hid hgy
      have HBW := Lib.hid bW
      have HB1 := Lib.hid bD
      clear hgx hgy ra rb bD p0 p1 p2 p3 q0 q1 q2 q3 Z2 Z3 hb
      have hi0 : (0 : Int) ≤ (i : Int) := by omega
      have hi1 : (i : Int) < (n : Int) := by omega
      by_cases hxy : x = y
      · have HXY := Lib.hid hxy
        rw [sameP_yes hxy] at HE
        clear hxy
        go_wp2
        go_region_held3 (fun X => (X.cell? ⟨gp, op + i * 4, none⟩ = some (.int .i64 x.no) ∧ X.cell? ⟨gp, op + i * 4 + 1, none⟩ = some (.int .i64 x.gen) ∧ X.cell? ⟨gp, op + i * 4 + 2, none⟩ = some (.int .i64 x.ende) ∧ X.cell? ⟨gp, op + i * 4 + 3, none⟩ = some (.slice a1 n1 c1) ∧
          X.cell? ⟨gq, oq + i * 4, none⟩ = some (.int .i64 y.no) ∧ X.cell? ⟨gq, oq + i * 4 + 1, none⟩ = some (.int .i64 y.gen) ∧ X.cell? ⟨gq, oq + i * 4 + 2, none⟩ = some (.int .i64 y.ende) ∧ X.cell? ⟨gq, oq + i * 4 + 3, none⟩ = some (.slice a2 n2 c2)) ∧ X.cell? ⟨gg, 3, none⟩ = some (.slice (some ⟨gp, op, none⟩) n cap) ∧ X.cell? ⟨g3, 3, none⟩ = some (.slice (some ⟨gq, oq, none⟩) n cap2))
          (first | exact HS.out _ (Below.refl _ _) | exact HS.out _ hb1)
          (first | (go_at_call 11; refine (HE.out _ HBW.out).mono ?_; rintro e w2 ⟨rfl, hb1⟩))
        all_goals
          go_wp2
          go_roundw
          case rel => exact ⟨i + 1, by omega, by go_num, fun j u v h1 h2 hj => by
            by_cases c : j = i
            · subst c
              have e1 := HX.out; have e2 := HY.out; rw [h1] at e1; rw [h2] at e2; cases e1; cases e2
              exact HXY.out
            · exact HU.out j u v h1 h2 (by omega), HB1.out.trans (hb1.mono HB1.out.size)⟩
          case measure => simp [intOf]; omega
      · rw [sameP_no hxy] at HE
        have HF : Hid (D = false) := by
          show D = false
          rw [← HD.out]
          exact sameP_no (fun e4 => hxy (by
            have e1 := HX.out
            rw [e4.1, HY.out] at e1
            exact (Option.some.inj e1).symm))
        clear hxy
        go_wp2
        go_region_held3 (fun X => (X.cell? ⟨gp, op + i * 4, none⟩ = some (.int .i64 x.no) ∧ X.cell? ⟨gp, op + i * 4 + 1, none⟩ = some (.int .i64 x.gen) ∧ X.cell? ⟨gp, op + i * 4 + 2, none⟩ = some (.int .i64 x.ende) ∧ X.cell? ⟨gp, op + i * 4 + 3, none⟩ = some (.slice a1 n1 c1) ∧
          X.cell? ⟨gq, oq + i * 4, none⟩ = some (.int .i64 y.no) ∧ X.cell? ⟨gq, oq + i * 4 + 1, none⟩ = some (.int .i64 y.gen) ∧ X.cell? ⟨gq, oq + i * 4 + 2, none⟩ = some (.int .i64 y.ende) ∧ X.cell? ⟨gq, oq + i * 4 + 3, none⟩ = some (.slice a2 n2 c2)) ∧ X.cell? ⟨gg, 3, none⟩ = some (.slice (some ⟨gp, op, none⟩) n cap) ∧ X.cell? ⟨g3, 3, none⟩ = some (.slice (some ⟨gq, oq, none⟩) n cap2))
          (first | exact HS.out _ (Below.refl _ _) | exact HS.out _ hb1)
          (first | (go_at_call 11; refine (HE.out _ HBW.out).mono ?_; rintro e w2 ⟨rfl, hb1⟩))
        all_goals
          go_wp2
          go_ret
          exact ⟨by rw [HF.out]; rfl, HBW.out.trans (hb1.mono HBW.out.size)⟩
    · have HE : Hid (D = true) := by
        show D = true
        rw [← HD.out]
        have e4 : ps = qs := listL_all (HN.out.trans HM.out.symm) (fun j x y h1 h2 => HU.out j x y h1 h2 (by have := (List.getElem?_eq_some_iff.1 h1).1; have := HN.out; omega))
        exact sameP_yes (by simp [e4])
      go_wp2
      go_ret
      exact ⟨by rw [HE.out]; rfl, BW.out.trans (hb.mono BW.out.size)⟩

end Go.Proofs.Ytieenkloiicnkaa

/- Lists that came in: a row read cell by cell is a list. -/
namespace Go.Proofs.Ytieenkloiicnkaa
open Go.RowKit Go.ChangeShapes Go.WideShapes Go.ChangeAt Go.Deep Go.Joins

section
variable {W : World}

theorem rows_of_cells {α : Type} [Inhabited α] (E : Enc α) {a : Addr} {len cap : Nat} (hl : len ≤ cap) (hp : ∀ i, i < len → ∃ x : α, ∀ k u, (E.f x)[k]? = some u → W.cell? (a.add (i * E.sz + k)) = some u) (Pr : α → Prop)
    (hpr : ∀ i, i < len → ∀ x : α, (∀ k u, (E.f x)[k]? = some u → W.cell? (a.add (i * E.sz + k)) = some u) → Pr x) :
    ∃ l : List α, l.length = len ∧ Rows' E W (.slice (some a) len cap) l ∧ ∀ x ∈ l, Pr x := by
  obtain ⟨f, hf⟩ := choose_lt hp
  refine ⟨(List.range len).map f, by simp, ?_, ?_⟩
  · by_cases h0 : len = 0
    · subst h0
      exact .inl ⟨rfl, _, _, rfl⟩
    · have hsp : a.spot = none := by
        have hne : (E.f (f 0))[0]? = some ((E.f (f 0))[0]'(by rw [E.len]; exact E.pos)) := List.getElem?_eq_getElem _
        have := hf 0 (by omega) 0 _ hne
        have h2 := World.cell?_spot this
        simpa [Addr.add] using h2
      obtain ⟨b, off, spot⟩ := a
      simp only at hsp
      subst hsp
      refine .inr ⟨b, off, cap, by simp, by simpa using hl, ?_, ?_⟩
      · have hne : (E.f (f 0))[0]? = some ((E.f (f 0))[0]'(by rw [E.len]; exact E.pos)) := List.getElem?_eq_getElem _
        have := hf 0 (by omega) 0 _ hne
        rw [Addr.add_lit] at this
        exact World.block_lt_of_cell? W _ this
      · intro j x hj k u hu
        have hjl : j < len := by have := (List.getElem?_eq_some_iff.1 hj).1; simpa using this
        have hx : f j = x := by simpa [hjl] using hj
        subst hx
        have := hf j hjl k u hu
        rw [Addr.add_lit] at this
        rw [Nat.add_assoc]
        exact this
  · intro x hx
    simp only [List.mem_map, List.mem_range] at hx
    obtain ⟨i, hi, rfl⟩ := hx
    exact hpr i hi _ (hf i hi)
end

end Go.Proofs.Ytieenkloiicnkaa

/- What a disk is that comes in as an argument: its rows can be read. -/
namespace Go.Proofs.Ytieenkloiicnkaa
open Go.RowKit Go.ChangeShapes Go.WideShapes Go.ChangeAt Go.Deep Go.Joins

section
variable {H : Type} {enc : TypeId × Value → H} {W : World}

set_option maxRecDepth 100000 in
theorem strs_of_trod {fuel : Nat} {v : Value} {x : DataW H × List MemPlace} (h : DataW.trod enc Try.prog W 0 (fun _ => true) true fuel 22 [v] = some x) :
    ∃ l : List ByteArray, Rows' strE W v l ∧ l.length ≤ maxLen ∧ ∀ s ∈ l, s.size ≤ maxLen := by
  rcases open_slice1 Try.underlying22 (by kernel_rfl) h with ⟨hv, _⟩ | ⟨a, len, cap, m, n, V, D, Pl, hv, _, hl, hm, hmm, _, hc⟩
  · simp at hv; subst hv
    exact ⟨[], .inl ⟨rfl, _, _, rfl⟩, by decide, by simp⟩
  · simp at hv; subst hv
    have hm2 : m = cap := by simpa using hmm
    have hex : ∀ i, i < len → ∃ s : ByteArray, W.cell? (a.add i) = some (.string s) ∧ s.size ≤ maxLen := by
      intro i hi
      obtain ⟨h1, h2⟩ := hc i (by omega)
      obtain ⟨s, hs, _, hsz⟩ := DataW.trod_string Try.underlying9 h2
      simp at hs
      exact ⟨s, by rw [h1, hs], hsz⟩
    obtain ⟨l, hlen, hr, hp⟩ := rows_of_cells strE hl (fun i hi => by
      obtain ⟨s, hs, _⟩ := hex i hi
      refine ⟨s, fun k u hu => ?_⟩
      match k, hu with
      | 0, hu => simp [strE] at hu; subst hu; rw [show strE.sz = 1 from rfl, Nat.mul_one, Nat.add_zero]; exact hs
      | k + 1, hu => simp [strE] at hu) (fun s => s.size ≤ maxLen) (fun i hi s hs => by
      obtain ⟨t, ht, hts⟩ := hex i hi
      have := hs 0 (.string s) rfl
      rw [show strE.sz = 1 from rfl, Nat.mul_one, Nat.add_zero, ht] at this
      simp at this
      subst this
      exact hts)
    exact ⟨l, hr, by omega, hp⟩

instance : Inhabited Wr := ⟨⟨0, ⟨#[]⟩⟩⟩

set_option maxRecDepth 100000 in
theorem writes_of_trod {fuel : Nat} {v : Value} {x : DataW H × List MemPlace} (h : DataW.trod enc Try.prog W 0 (fun _ => true) true fuel 23 [v] = some x) :
    ∃ l : List Wr, Rows' lwrE W v l ∧ l.length ≤ maxLen ∧ ∀ x ∈ l, x.text.size ≤ maxLen := by
  rcases open_slice_pairs Try.underlying23 Try.underlying68 (by kernel_rfl) rfl rfl (by kernel_rfl) (by kernel_rfl) h with ⟨hv, _⟩ | ⟨a, len, cap, m, n, V0, V1, D0, D1, P0, P1, hv, _, hl, hm, hmm, _, hc⟩
  · simp at hv; subst hv
    exact ⟨[], .inl ⟨rfl, _, _, rfl⟩, by decide, by simp⟩
  · simp at hv; subst hv
    have hm2 : m = cap := by simpa using hmm
    have hex : ∀ i, i < len → ∃ x : Wr, W.cell? (a.add (i * 2)) = some (.int .i64 x.at_) ∧ W.cell? (a.add (i * 2 + 1)) = some (.string x.text) ∧ x.text.size ≤ maxLen := by
      intro i hi
      obtain ⟨h1, h2, h3, h4⟩ := hc i (by omega)
      obtain ⟨s, hs, _, hsz⟩ := DataW.trod_string Try.underlying9 h4
      obtain ⟨k, hk, _, _⟩ := DataW.trod_int Try.underlying3 h3
      simp at hs hk
      exact ⟨⟨k, s⟩, by rw [h1, hk], by rw [h2, hs], hsz⟩
    obtain ⟨l, hlen, hr, hp⟩ := rows_of_cells lwrE hl (fun i hi => by
      obtain ⟨x, h0, h1, _⟩ := hex i hi
      refine ⟨x, fun k u hu => ?_⟩
      match k, hu with
      | 0, hu => simp [lwrE] at hu; subst hu; exact h0
      | 1, hu => simp [lwrE] at hu; subst hu; exact h1
      | k + 2, hu => simp [lwrE] at hu) (fun x => x.text.size ≤ maxLen) (fun i hi x hx => by
      obtain ⟨y, _, h1, hys⟩ := hex i hi
      have : W.cell? (a.add (i * 2 + 1)) = some (.string x.text) := hx 1 (.string x.text) rfl
      rw [h1] at this
      simp at this
      rw [← this]
      exact hys)
    exact ⟨l, hr, by omega, hp⟩

set_option maxRecDepth 100000 in
theorem open_Disk {b0 : Nat} {r : Reach} {v : Value} {d : DataW H} {p : List MemPlace} (hv : Value.okWide Try.prog W r b0 25 v) (h : DataW.Trod enc Try.prog W 0 (fun _ => true) true 25 v d p) : ∃ D : Dk, DIn W v D := by
  obtain ⟨va, vb, y0, y1, n, rfl, _, _, h0, h1⟩ := open_agg2 Try.underlying25 (by kernel_rfl) (by kernel_rfl) hv h
  obtain ⟨l, hl1, hl2, hl3⟩ := strs_of_trod h0
  obtain ⟨c, hc1, hc2, hc3⟩ := writes_of_trod h1
  have hml : maxLen ≤ 9223372036854775807 := by decide
  exact ⟨⟨l, c⟩, va, vb, rfl, hl1, hc1, Nat.le_trans hl2 hml, Nat.le_trans hc2 hml, fun s hs => Nat.le_trans (hl3 s hs) hml, fun x hx => Nat.le_trans (hc3 x hx) hml⟩
end

end Go.Proofs.Ytieenkloiicnkaa

/- Records and items that come in as arguments. -/
namespace Go.Proofs.Ytieenkloiicnkaa
open Go.RowKit Go.ChangeShapes Go.WideShapes Go.ChangeAt Go.Deep Go.Joins

theorem list8 {α : Type} {l : List α} (h : l.length = 8) : ∃ v0 v1 v2 v3 v4 v5 v6 v7, l = [v0, v1, v2, v3, v4, v5, v6, v7] := by
  match l, h with
  | [v0, v1, v2, v3, v4, v5, v6, v7], _ => exact ⟨v0, v1, v2, v3, v4, v5, v6, v7, rfl⟩
theorem list9 {α : Type} {l : List α} (h : l.length = 9) : ∃ c v0 v1 v2 v3 v4 v5 v6 v7, l = c :: [v0, v1, v2, v3, v4, v5, v6, v7] := by
  match l, h with
  | [c, v0, v1, v2, v3, v4, v5, v6, v7], _ => exact ⟨c, v0, v1, v2, v3, v4, v5, v6, v7, rfl⟩

section
variable {H : Type} {enc : TypeId × Value → H} {P : Program} {w : World} {base : Nat} {spare : Nat → Bool} {held : Bool}

/-- The eight fields of a struct, each of one cell. -/
theorem trod_eight {t : TypeId} {f0 f1 f2 f3 f4 f5 f6 f7 : Field} {fuel : Nat} {cs : List Value} {x : DataW H × List MemPlace} (hs : P.underlying t = some (.struct #[f0, f1, f2, f3, f4, f5, f6, f7])) (hone : oneCellFields P #[f0, f1, f2, f3, f4, f5, f6, f7] = true) (hC : P.cellsOf t = 8)
    (h : DataW.trod enc P w base spare held fuel t cs = some x) :
    ∃ (v0 v1 v2 v3 v4 v5 v6 v7 : Value) (n : Nat), cs = [v0, v1, v2, v3, v4, v5, v6, v7] ∧ (∃ y, DataW.trod enc P w base spare held n f0.type [v0] = some y) ∧ (∃ y, DataW.trod enc P w base spare held n f1.type [v1] = some y) ∧ (∃ y, DataW.trod enc P w base spare held n f2.type [v2] = some y) ∧ (∃ y, DataW.trod enc P w base spare held n f3.type [v3] = some y) ∧ (∃ y, DataW.trod enc P w base spare held n f4.type [v4] = some y) ∧ (∃ y, DataW.trod enc P w base spare held n f5.type [v5] = some y) ∧ (∃ y, DataW.trod enc P w base spare held n f6.type [v6] = some y) ∧ (∃ y, DataW.trod enc P w base spare held n f7.type [v7] = some y) := by
  obtain ⟨xs, n, _, _, hl, hlen, hf⟩ := DataW.trod_struct hs h
  obtain ⟨v0, v1, v2, v3, v4, v5, v6, v7, rfl⟩ := list8 (hl.trans hC)
  have g : ∀ (i : Nat) (f : Field) (v : Value), #[f0, f1, f2, f3, f4, f5, f6, f7][i]? = some f → [v0, v1, v2, v3, v4, v5, v6, v7][i]? = some v → ∃ y, DataW.trod enc P w base spare held n f.type [v] = some y := by
    intro i f v hi hv
    obtain ⟨o, k⟩ := hone_of hone i f hi
    have hx := hf i f hi
    rw [o, k] at hx
    have e : (List.drop i [v0, v1, v2, v3, v4, v5, v6, v7]).take 1 = [v] := by
      rw [List.take_one, List.head?_drop, hv]; rfl
    rw [e] at hx
    have hi' : i < xs.length := by
      rw [hlen]
      exact (Array.getElem?_eq_some_iff.1 hi).1
    exact ⟨xs[i], by first | (rw [hx]; exact List.getElem?_eq_getElem hi') | (rw [List.getElem?_eq_getElem hi'] at hx; exact hx) | simpa [hi'] using hx⟩
  exact ⟨v0, v1, v2, v3, v4, v5, v6, v7, n, rfl, g 0 f0 v0 rfl rfl, g 1 f1 v1 rfl rfl, g 2 f2 v2 rfl rfl, g 3 f3 v3 rfl rfl, g 4 f4 v4 rfl rfl, g 5 f5 v5 rfl rfl, g 6 f6 v6 rfl rfl, g 7 f7 v7 rfl rfl⟩
end

/-- A record that came in: its texts are texts. -/
def RIn (v : Value) (r : Rc) : Prop := v = r.v ∧ r.user.size ≤ 9223372036854775807 ∧ r.name.size ≤ 9223372036854775807 ∧ r.text.size ≤ 9223372036854775807
/-- An item that came in. -/
def IIn (v : Value) (seq : Int) (r : Rc) : Prop := v = itV seq r ∧ r.user.size ≤ 9223372036854775807 ∧ r.name.size ≤ 9223372036854775807 ∧ r.text.size ≤ 9223372036854775807

section
variable {H : Type} {enc : TypeId × Value → H} {W : World}

set_option maxRecDepth 100000 in
theorem rec_form {fuel : Nat} {cs : List Value} {x : DataW H × List MemPlace} (h : DataW.trod enc Try.prog W 0 (fun _ => true) true fuel 75 cs = some x) :
    ∃ r : Rc, cs = r.cs.toList ∧ r.user.size ≤ 9223372036854775807 ∧ r.name.size ≤ 9223372036854775807 ∧ r.text.size ≤ 9223372036854775807 := by
  obtain ⟨v0, v1, v2, v3, v4, v5, v6, v7, n, rfl, ⟨y0, h0⟩, ⟨y1, h1⟩, ⟨y2, h2⟩, ⟨y3, h3⟩, ⟨y4, h4⟩, ⟨y5, h5⟩, ⟨y6, h6⟩, ⟨y7, h7⟩⟩ := trod_eight Try.underlying75 (by kernel_rfl) (by kernel_rfl) h
  obtain ⟨k0, hk0, _, _⟩ := DataW.trod_int Try.underlying3 h0
  obtain ⟨k1, hk1, _, _⟩ := DataW.trod_int Try.underlying3 h1
  obtain ⟨k2, hk2, _, _⟩ := DataW.trod_int Try.underlying3 h2
  obtain ⟨k3, hk3, _, _⟩ := DataW.trod_int Try.underlying3 h3
  obtain ⟨k4, hk4, _, _⟩ := DataW.trod_int Try.underlying3 h4
  obtain ⟨s5, hk5, _, z5⟩ := DataW.trod_string Try.underlying9 h5
  obtain ⟨s6, hk6, _, z6⟩ := DataW.trod_string Try.underlying9 h6
  obtain ⟨s7, hk7, _, z7⟩ := DataW.trod_string Try.underlying9 h7
  simp at hk0 hk1 hk2 hk3 hk4 hk5 hk6 hk7
  have hml : maxLen ≤ 9223372036854775807 := by decide
  exact ⟨⟨k0, k1, k2, k3, k4, s5, s6, s7⟩, by rw [hk0, hk1, hk2, hk3, hk4, hk5, hk6, hk7]; rfl, Nat.le_trans z5 hml, Nat.le_trans z6 hml, Nat.le_trans z7 hml⟩

set_option maxRecDepth 100000 in
theorem open_Rec {b0 : Nat} {r : Reach} {v : Value} {d : DataW H} {p : List MemPlace} (hv : Value.okWide Try.prog W r b0 75 v) (h : DataW.Trod enc Try.prog W 0 (fun _ => true) true 75 v d p) : ∃ D : Rc, RIn v D := by
  obtain ⟨cs, rfl, hsz⟩ := okWide_struct Try.underlying75 hv
  obtain ⟨fuel, hf⟩ := h
  obtain ⟨D, hD, z⟩ := rec_form hf
  refine ⟨D, ?_, z⟩
  obtain ⟨l⟩ := cs
  simp [Value.cells] at hD
  rw [hD]; rfl

set_option maxRecDepth 100000 in
theorem open_Item {b0 : Nat} {r : Reach} {v : Value} {d : DataW H} {p : List MemPlace} (hv : Value.okWide Try.prog W r b0 77 v) (h : DataW.Trod enc Try.prog W 0 (fun _ => true) true 77 v d p) : ∃ (seq : Int) (D : Rc), IIn v seq D := by
  obtain ⟨cs, rfl, hsz⟩ := okWide_struct Try.underlying77 hv
  obtain ⟨fuel, hf⟩ := h
  have hC : Try.prog.cellsOf 77 = 9 := by kernel_rfl
  have hR : Try.prog.cellsOf 75 = 8 := by kernel_rfl
  have hN : Try.prog.cellsOf 3 = 1 := by kernel_rfl
  obtain ⟨l⟩ := cs
  obtain ⟨c, v0, v1, v2, v3, v4, v5, v6, v7, rfl⟩ := list9 (show l.length = 9 from hsz.trans hC)
  obtain ⟨y0, y1, n, _, _, h0, h1⟩ := trod_struct2 Try.underlying77 hf
  simp [Value.cells, hR, hN] at h0 h1
  obtain ⟨k0, hk0, _, _⟩ := DataW.trod_int Try.underlying3 h0
  obtain ⟨D, hD, z⟩ := rec_form h1
  simp at hk0
  refine ⟨k0, D, ?_, z⟩
  have e : [v0, v1, v2, v3, v4, v5, v6, v7] = D.cs.toList := hD
  show Value.agg ⟨c :: [v0, v1, v2, v3, v4, v5, v6, v7]⟩ = _
  rw [e, hk0]; rfl
end

end Go.Proofs.Ytieenkloiicnkaa

/- Lists of items that come in as an argument. -/
namespace Go.Proofs.Ytieenkloiicnkaa
open Go.RowKit Go.ChangeShapes Go.WideShapes Go.ChangeAt Go.Deep Go.Joins

/-- Items that came in: they can be read; their texts are texts. -/
def ItsIn (W : World) (v : Value) (l : List Itm) : Prop := Rows' litE W v l ∧ l.length ≤ 9223372036854775807 ∧ ∀ x ∈ l, x.2.user.size ≤ 9223372036854775807 ∧ x.2.name.size ≤ 9223372036854775807 ∧ x.2.text.size ≤ 9223372036854775807

instance : Inhabited Itm := ⟨(0, Rc.nil)⟩

section
variable {H : Type} {enc : TypeId × Value → H} {W : World}

set_option maxRecDepth 100000 in
theorem item_form {fuel : Nat} {l : List Value} {x : DataW H × List MemPlace} (hl : l.length = 9) (hf : DataW.trod enc Try.prog W 0 (fun _ => true) true fuel 77 l = some x) :
    ∃ y : Itm, l = litE.f y ∧ y.2.user.size ≤ 9223372036854775807 ∧ y.2.name.size ≤ 9223372036854775807 ∧ y.2.text.size ≤ 9223372036854775807 := by
  have hR : Try.prog.cellsOf 75 = 8 := by kernel_rfl
  have hN : Try.prog.cellsOf 3 = 1 := by kernel_rfl
  obtain ⟨c, v0, v1, v2, v3, v4, v5, v6, v7, rfl⟩ := list9 hl
  obtain ⟨y0, y1, n, _, _, h0, h1⟩ := trod_struct2 Try.underlying77 hf
  simp [hR, hN] at h0 h1
  obtain ⟨k0, hk0, _, _⟩ := DataW.trod_int Try.underlying3 h0
  obtain ⟨D, hD, z⟩ := rec_form h1
  simp at hk0
  refine ⟨(k0, D), ?_, z⟩
  rw [hD, hk0]; rfl

set_option maxRecDepth 100000 in
theorem items_of_trod {fuel : Nat} {v : Value} {x : DataW H × List MemPlace} (h : DataW.trod enc Try.prog W 0 (fun _ => true) true fuel 53 [v] = some x) : ∃ l : List Itm, ItsIn W v l := by
  have hC : Try.prog.cellsOf 77 = 9 := by kernel_rfl
  have hml : maxLen ≤ 9223372036854775807 := by decide
  rcases open_slice Try.underlying53 h with ⟨hv, _⟩ | ⟨a, len, cap, m, n, D, Pl, hv, _, hl, hm, hmm, _, hc⟩
  · simp at hv; subst hv
    exact ⟨[], .inl ⟨rfl, _, _, rfl⟩, by simp, by simp⟩
  · simp at hv; subst hv
    have hm2 : m = cap := by simpa using hmm
    have hex : ∀ i, i < len → ∃ y : Itm, (∀ k u, (litE.f y)[k]? = some u → W.cell? (a.add (i * 9 + k)) = some u) ∧ y.2.user.size ≤ 9223372036854775807 ∧ y.2.name.size ≤ 9223372036854775807 ∧ y.2.text.size ≤ 9223372036854775807 := by
      intro i hi
      obtain ⟨cs', h1, h2⟩ := hc i (by omega)
      rw [hC] at h1
      obtain ⟨_, hlen, hcell⟩ := World.cells?_some h1
      obtain ⟨y, hy, z⟩ := item_form hlen h2
      refine ⟨y, fun k u hu => ?_, z⟩
      have hk : k < 9 := by have h9 := (List.getElem?_eq_some_iff.1 hu).1; rw [litE.len y] at h9; exact h9
      have := hcell k hk
      rw [add_add] at this
      rw [this, hy]
      exact hu
    obtain ⟨l, hlen, hr, hp⟩ := rows_of_cells litE hl (fun i hi => by
      obtain ⟨y, hy, _⟩ := hex i hi
      exact ⟨y, hy⟩) (fun y => y.2.user.size ≤ 9223372036854775807 ∧ y.2.name.size ≤ 9223372036854775807 ∧ y.2.text.size ≤ 9223372036854775807) (fun i hi y hy => by
      obtain ⟨z, hz, hs⟩ := hex i hi
      have e6 := hy 6 _ rfl
      have e7 := hy 7 _ rfl
      have e8 := hy 8 _ rfl
      have g6 := hz 6 _ rfl
      have g7 := hz 7 _ rfl
      have g8 := hz 8 _ rfl
      change W.cell? (a.add (i * 9 + 6)) = _ at e6
      change W.cell? (a.add (i * 9 + 7)) = _ at e7
      change W.cell? (a.add (i * 9 + 8)) = _ at e8
      rw [g6] at e6
      rw [g7] at e7
      rw [g8] at e8
      simp at e6 e7 e8
      rw [← e6, ← e7, ← e8]
      exact hs)
    exact ⟨l, hr, by omega, hp⟩

set_option maxRecDepth 100000 in
theorem open_ItemS {b0 : Nat} {r : Reach} {v : Value} {d : DataW H} {p : List MemPlace} (hv : Value.okWide Try.prog W r b0 53 v) (h : DataW.Trod enc Try.prog W 0 (fun _ => true) true 53 v d p) : ∃ l : List Itm, ItsIn W v l := by
  obtain ⟨fuel, h⟩ := h
  obtain ⟨a0, len0, cap0, rfl⟩ := okWide_slice Try.underlying53 hv
  exact items_of_trod h
end

end Go.Proofs.Ytieenkloiicnkaa
