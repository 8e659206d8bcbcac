/- Reading decimal figures: what spec.ReadDecimal and impl.ReadDecimal hand back. -/
import Derived.Test.YtnaaebbinmpjeaaDecimal
import Derived.Test.YtnaaebbinmpjeaaFigures
namespace Go.Proofs.Ytnaaebbinmpjeaa
open Go.RowKit

/-- Whether a text is the figures of a number within the bound. -/
def isDec (l : List UInt8) : Prop := l.length ≤ 10 ∧ allDig l ∧ val l ≤ 1000000000 ∧ dec (val l) = l

/-- What ReadDecimal hands back: of such a text its number, of another nothing. -/
def RdT (s : ByteArray) (v : Value) : Prop :=
  (isDec s.data.toList ∧ v = .tuple #[.int .i64 (val s.data.toList : Int), .bool true]) ∨ (¬ isDec s.data.toList ∧ v = .tuple #[.int .i64 0, .bool false])

theorem RdT_one {s : ByteArray} {v v' : Value} (h : RdT s v) (h' : RdT s v') : v = v' := by
  rcases h with ⟨a, rfl⟩ | ⟨a, rfl⟩ <;> rcases h' with ⟨b, rfl⟩ | ⟨b, rfl⟩
  · rfl
  · exact absurd a b
  · exact absurd b a
  · rfl

theorem allDig_take {l : List UInt8} {k : Nat} (h : k < l.length) (ha : allDig (l.take k)) (hc : 48 ≤ l[k].toNat ∧ l[k].toNat ≤ 57) : allDig (l.take (k + 1)) := by
  rw [List.take_succ_eq_append_getElem h]
  intro c hcm
  rcases List.mem_append.1 hcm with h1 | h1
  · exact ha c h1
  · simp at h1; subst h1; exact hc

theorem val_take {l : List UInt8} {k : Nat} (h : k < l.length) : val (l.take (k + 1)) = 10 * val (l.take k) + (l[k].toNat - 48) := by
  rw [List.take_succ_eq_append_getElem h, val_snoc]

theorem val_bound {l : List UInt8} {k : Nat} (hl : l.length ≤ 10) (hk : k < l.length) (ha : allDig (l.take k)) : val (l.take k) < 1000000000 := by
  have h1 := val_lt _ (l.take k) rfl ha
  have h2 : (l.take k).length ≤ 9 := by simp; omega
  have h3 : (10 : Nat) ^ (l.take k).length ≤ 10 ^ 9 := Nat.pow_le_pow_right (by decide) h2
  omega

set_option maxRecDepth 100000 in
set_option maxHeartbeats 1000000 in
theorem specReadDecimal_any (s : ByteArray) (w : World) (hs : s.size ≤ 1099511627776) :
    Calls Try.prog 27 #[.string s] w fun e w' => ∃ v, e = .returned v ∧ RdT s v ∧ Below w.heap.size w w' := by
  by_cases h : s.size ≤ 10
  · have hlen : s.data.toList.length = s.size := by simp
    go_enter Try.func27, Try.ntmps27
    go_wp2
    go_loop [4, 5] (fun nv iv => ∃ k : Nat, k ≤ s.size ∧ iv = .int .i64 (k : Int) ∧ nv = .int .i64 (val (s.data.toList.take k) : Int) ∧ allDig (s.data.toList.take k)) (fun _ iv => s.size - (intOf iv).toNat)
    case atStart => exact ⟨0, by omega, rfl, rfl, by intro c hc; simp at hc⟩
    case round =>
      obtain ⟨k, hk, rfl, rfl, ha0⟩ := hrel
      have ha : Hid (allDig (s.data.toList.take k)) := ha0
      clear ha0
      by_cases hlt : k < s.size
      · have hl : k < s.data.toList.length := by omega
        have hvb := val_bound (by omega) hl ha.out
        have hc256 : s[k].toNat < 256 := UInt8.toNat_lt _
        by_cases hc : 48 ≤ s[k].toNat ∧ s[k].toNat ≤ 57
        · have hvt : Hid (val (s.data.toList.take (k + 1)) = 10 * val (s.data.toList.take k) + (s[k].toNat - 48)) := val_take hl
          obtain ⟨hc1, hc2⟩ := hc
          go_wp2
          go_round
          case rel => exact ⟨k + 1, by omega, by go_num, by rw [hvt.out]; go_num, allDig_take hl ha.out ⟨hc1, hc2⟩⟩
          case measure => simp [intOf]; omega
        · have hz : Hid (RdT s (.tuple #[.int .i64 0, .bool false])) := .inr ⟨fun hh => hc (hh.2.1 s.data.toList[k] (List.getElem_mem hl)), rfl⟩
          rcases (show s[k].toNat < 48 ∨ 58 ≤ s[k].toNat by omega) with h5 | h5
          all_goals
            clear hc
            go_wp2
            go_ret2
            exact ⟨_, rfl, hz.out, Below.refl _ _⟩
      · have hT : s.data.toList.take k = s.data.toList := List.take_of_length_le (by omega)
        rw [hT] at ha ⊢
        have hvb := val_lt _ s.data.toList rfl ha.out
        have h10 : (10 : Nat) ^ s.data.toList.length ≤ 10 ^ 10 := Nat.pow_le_pow_right (by decide) (by omega)
        obtain ⟨N, hN0⟩ : ∃ N, val s.data.toList = N := ⟨_, rfl⟩
        have hN : Hid (val s.data.toList = N) := hN0
        rw [hN0] at hvb ⊢
        have hNb : N < 10000000000 := by omega
        clear hN0 hvb h10 hT
        by_cases hm : N ≤ 1000000000
        · by_cases hdv : dec N = s.data.toList
          · have hz : Hid (RdT s (.tuple #[.int .i64 (N : Int), .bool true])) := by
              refine Or.inl ⟨⟨by omega, ha.out, by rw [hN.out]; exact hm, by rw [hN.out]; exact hdv⟩, by rw [hN.out]⟩
            have he : (dec N == s.toList) = true := by rw [ByteArray.toList_eq]; simp [hdv]
            clear hdv
            go_wp2_with (go_at_call 35; refine (specDecimal_nat _ _ (by omega)).mono ?_; rintro e w1 ⟨rfl, hb1⟩)
            go_ret2
            exact ⟨_, rfl, hz.out, hb1⟩
          · have hz : Hid (RdT s (.tuple #[.int .i64 0, .bool false])) := .inr ⟨fun hh => hdv (by have := hh.2.2.2; rw [hN.out] at this; exact this), rfl⟩
            have he : (dec N == s.toList) = false := by rw [ByteArray.toList_eq]; simp [hdv]
            clear hdv
            go_wp2_with (go_at_call 35; refine (specDecimal_nat _ _ (by omega)).mono ?_; rintro e w1 ⟨rfl, hb1⟩)
            go_ret2
            exact ⟨_, rfl, hz.out, hb1⟩
        · have hz : Hid (RdT s (.tuple #[.int .i64 0, .bool false])) := .inr ⟨fun hh => hm (by have := hh.2.2.1; rw [hN.out] at this; exact this), rfl⟩
          go_wp2
          go_ret2
          exact ⟨_, rfl, hz.out, Below.refl _ _⟩
  · have hz : Hid (RdT s (.tuple #[.int .i64 0, .bool false])) := .inr ⟨fun hh => h (by have := hh.1; simpa using this), rfl⟩
    go_enter Try.func27, Try.ntmps27
    go_wp2
    go_ret2
    exact ⟨_, rfl, hz.out, Below.refl _ _⟩

/-- The values of figures are the figures less 48. -/
theorem valsOf_dec : ∀ (l : List UInt8), (valsOf false l).length = l.length ↔ allDig l := by
  intro l
  induction l with
  | nil => simp [valsOf, allDig]
  | cons c cs ih =>
    by_cases hc : 48 ≤ c.toNat ∧ c.toNat ≤ 57
    · rw [show valsOf false (c :: cs) = UInt8.ofNat (c.toNat - 48) :: valsOf false cs by rw [valsOf, digV_dec hc.1 hc.2]]
      simp only [List.length_cons, Nat.add_right_cancel_iff, ih]
      constructor
      · intro h x hx
        rcases List.mem_cons.1 hx with rfl | hx
        · exact hc
        · exact h x hx
      · intro h x hx
        exact h x (by simp [hx])
    · rw [show valsOf false (c :: cs) = [] by rw [valsOf, digV_bad hc (by simp)]]
      constructor
      · intro h; simp at h
      · intro h; exact absurd (h c (by simp)) hc

theorem valsOf_map : ∀ (l : List UInt8), allDig l → valsOf false l = l.map fun c => UInt8.ofNat (c.toNat - 48) := by
  intro l
  induction l with
  | nil => intro _; rfl
  | cons c cs ih =>
    intro h
    have hc := h c (by simp)
    rw [valsOf, digV_dec hc.1 hc.2, ih (fun x hx => h x (by simp [hx]))]
    rfl

theorem valsOf_at {l : List UInt8} {k : Nat} (h : k < l.length) (ha : allDig l) : (valsOf false l)[k]? = some (UInt8.ofNat (l[k].toNat - 48)) := by
  rw [valsOf_map l ha]
  simp [h]

set_option maxRecDepth 100000 in
set_option maxHeartbeats 1000000 in
theorem implReadDecimal_any (s : ByteArray) (w : World) (hs : s.size ≤ 1099511627776) :
    Calls Try.prog 28 #[.string s] w fun e w' => ∃ v, e = .returned v ∧ RdT s v ∧ Below w.heap.size w w' := by
  have hlen : s.data.toList.length = s.size := by simp
  by_cases h : 1 ≤ s.size ∧ s.size ≤ 10
  · obtain ⟨hp, hle⟩ := h
    have hne : s.data.toList ≠ [] := by intro e; rw [e] at hlen; simp at hlen; omega
    have hz0 : ((s.size : Int) == 0) = false := beq_eq_false_iff_ne.2 (by omega)
    have hh : s.data.toList.head? = some s[0] := by
      rw [List.head?_eq_getElem?, List.getElem?_eq_getElem (show 0 < s.data.toList.length by omega)]; rfl
    by_cases hd : s[0].toNat = 48 ∧ 1 < s.size
    · have hz : Hid (RdT s (.tuple #[.int .i64 0, .bool false])) := by
        refine Or.inr ⟨fun hi => ?_, rfl⟩
        rcases (dec_val hi.2.1 hne).1 hi.2.2.2 with h1 | h1
        · apply h1
          rw [hh]
          congr 1
          apply UInt8.toNat_inj.1
          rw [hd.1]; rfl
        · omega
      obtain ⟨hd1, hd2⟩ := hd
      have hd3 : ((s[0].toNat : Int) == 48) = true := by simp; omega
      clear hd1 hh
      go_enter Try.func28, Try.ntmps28
      go_wp2
      go_ret2
      exact ⟨_, rfl, hz.out, Below.refl _ _⟩
    · have hnn : s.data.toList.head? ≠ some 48 ∨ s.data.toList.length = 1 := by
        by_cases h48 : s[0].toNat = 48
        · right
          have : ¬ 1 < s.size := fun h1 => hd ⟨h48, h1⟩
          omega
        · left
          rw [hh]
          intro e
          have e2 := Option.some.inj e
          rw [e2] at h48
          exact h48 rfl
      have HN : Hid (s.data.toList.head? ≠ some 48 ∨ s.data.toList.length = 1) := hnn
      have hsplit : (((s[0].toNat : Int) == 48) = true ∧ s.size = 1) ∨ ((s[0].toNat : Int) == 48) = false := by
        by_cases h48 : s[0].toNat = 48
        · left
          have : ¬ 1 < s.size := fun h1 => hd ⟨h48, h1⟩
          exact ⟨beq_iff_eq.2 (by omega), by omega⟩
        · right
          exact beq_eq_false_iff_ne.2 (by omega)
      clear hnn hd hh
      obtain ⟨V, hV0⟩ : ∃ V, valsOf false s.data.toList = V := ⟨_, rfl⟩
      have hV : Hid (valsOf false s.data.toList = V) := hV0
      by_cases ha0 : allDig s.data.toList
      · have ha : Hid (allDig s.data.toList) := ha0
        have hVl : V.length = s.size := by rw [← hV0]; have := (valsOf_dec _).2 ha0; omega
        have hok : decide (V.length = s.size) = true := decide_eq_true hVl
        have hVl2 : Hid (V.length = s.size) := hVl
        have hVb : V.length ≤ 10 := by omega
        have hVn : V ≠ [] := by intro e; rw [e] at hVl; simp at hVl; omega
        have HVn : Hid (V ≠ []) := hVn
        clear hV0 ha0 hVl hVn
        have hdec : Hid (dec (val s.data.toList) = s.data.toList) := (dec_val ha.out hne).2 HN.out
        rcases hsplit with ⟨hd3, hd4⟩ | hd3
        all_goals
          go_enter Try.func28, Try.ntmps28
          go_wp2_with (go_at_call 36; refine (figuresOf_any false 10 s _ rfl hs).mono ?_; rintro e w1 ⟨v, rfl, hb1⟩; rw [hV.out, hok]; rw [hV.out] at hb1; obtain ⟨g, cap, rfl, hcap, _, hg1, hcl0⟩ := hb1.at HVn.out; have hcl : Hid (∀ j b, V[j]? = some b → w1.cell? ⟨g, j, none⟩ = some (.int .u8 (b.toNat : Int))) := hcl0; clear hcl0)
          go_loop [6, 34] (fun nv iv => ∃ k : Nat, k ≤ V.length ∧ iv = .int .i64 (k : Int) ∧ nv = .int .i64 (val (s.data.toList.take k) : Int)) (fun _ iv => V.length - (intOf iv).toNat)
          case atStart => exact ⟨0, by omega, rfl, rfl⟩
          case round =>
            obtain ⟨k, hk, rfl, rfl⟩ := hrel
            have had : allDig (s.data.toList.take k) := fun c hc => ha.out c (List.mem_of_mem_take hc)
            have hVs := hVl2.out
            by_cases hlt : k < V.length
            · have hl : k < s.data.toList.length := by omega
              have hvb := val_bound (by omega) hl had
              have hdk := ha.out s.data.toList[k] (List.getElem_mem hl)
              have hat := valsOf_at hl ha.out
              rw [hV.out] at hat
              have hcell0 := hcl.out _ _ hat
              have hbn : ((UInt8.ofNat (s.data.toList[k].toNat - 48)).toNat : Int) = (s[k].toNat : Int) - 48 := by
                rw [UInt8.toNat_ofNat']; show (((s[k].toNat - 48) % 2 ^ 8 : Nat) : Int) = _
                have : 48 ≤ s[k].toNat ∧ s[k].toNat ≤ 57 := hdk
                omega
              rw [hbn] at hcell0
              have hc48 : 48 ≤ s[k].toNat ∧ s[k].toNat ≤ 57 := hdk
              obtain ⟨hc1, hc2⟩ := hc48
              have hvt : Hid (val (s.data.toList.take (k + 1)) = 10 * val (s.data.toList.take k) + (s[k].toNat - 48)) := val_take hl
              clear had hdk hat hbn hVs
              go_wp2
              go_round
              case rel => exact ⟨k + 1, by omega, by go_num, by rw [hvt.out]; go_num⟩
              case measure => simp [intOf]; omega
            · have hT : s.data.toList.take k = s.data.toList := List.take_of_length_le (by omega)
              rw [hT] at had ⊢
              have hvb := val_lt _ s.data.toList rfl had
              have h10 : (10 : Nat) ^ s.data.toList.length ≤ 10 ^ 10 := Nat.pow_le_pow_right (by decide) (by omega)
              obtain ⟨N, hN0⟩ : ∃ N, val s.data.toList = N := ⟨_, rfl⟩
              have hN : Hid (val s.data.toList = N) := hN0
              rw [hN0] at hvb ⊢
              have hNb : N < 10000000000 := by omega
              have hdv : dec N = s.data.toList := by rw [← hN0]; exact hdec.out
              have HD : Hid (dec N = s.data.toList) := hdv
              clear hN0 hvb h10 hT had hdv
              by_cases hm : N ≤ 1000000000
              · have hz : Hid (RdT s (.tuple #[.int .i64 (N : Int), .bool true])) := by
                  refine Or.inl ⟨⟨by omega, ha.out, by rw [hN.out]; exact hm, by rw [hN.out]; exact HD.out⟩, by rw [hN.out]⟩
                clear hVs
                go_wp2
                go_ret2
                exact ⟨_, rfl, hz.out, hb1.bel⟩
              · have hz : Hid (RdT s (.tuple #[.int .i64 0, .bool false])) := .inr ⟨fun hh => hm (by have := hh.2.2.1; rw [hN.out] at this; exact this), rfl⟩
                clear hVs
                go_wp2
                go_ret2
                exact ⟨_, rfl, hz.out, hb1.bel⟩
      · have hz : Hid (RdT s (.tuple #[.int .i64 0, .bool false])) := .inr ⟨fun hh => ha0 hh.2.1, rfl⟩
        have hVl : V.length ≠ s.size := by
          intro e
          apply ha0
          rw [← valsOf_dec, hV0]
          omega
        have hok : decide (V.length = s.size) = false := decide_eq_false hVl
        clear hV0 ha0 hVl
        rcases hsplit with ⟨hd3, hd4⟩ | hd3
        all_goals
          go_enter Try.func28, Try.ntmps28
          go_wp2_with (go_at_call 36; refine (figuresOf_any false 10 s _ rfl hs).mono ?_; rintro e w1 ⟨v, rfl, hb1⟩; rw [hV.out, hok])
          go_ret2
          exact ⟨_, rfl, hz.out, hb1.bel⟩
  · by_cases h0 : s.size = 0
    · have hz : Hid (RdT s (.tuple #[.int .i64 0, .bool false])) := by
        refine Or.inr ⟨fun hh => ?_, rfl⟩
        have hnil : s.data.toList = [] := List.length_eq_zero_iff.1 (by omega)
        have := hh.2.2.2
        rw [hnil] at this
        exact dec_nil this
      have hz0 : ((s.size : Int) == 0) = true := beq_iff_eq.2 (by omega)
      clear h0
      go_enter Try.func28, Try.ntmps28
      go_wp2
      go_ret2
      exact ⟨_, rfl, hz.out, Below.refl _ _⟩
    · have hz : Hid (RdT s (.tuple #[.int .i64 0, .bool false])) := .inr ⟨fun hh => h ⟨by omega, by have := hh.1; omega⟩, rfl⟩
      have hz0 : ((s.size : Int) == 0) = false := beq_eq_false_iff_ne.2 (by omega)
      have hbig : 10 < s.size := by omega
      clear h
      go_enter Try.func28, Try.ntmps28
      go_wp2
      go_ret2
      exact ⟨_, rfl, hz.out, Below.refl _ _⟩

end Go.Proofs.Ytnaaebbinmpjeaa
