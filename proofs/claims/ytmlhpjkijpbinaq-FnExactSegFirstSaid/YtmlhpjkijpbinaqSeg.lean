/- Segments: where they lie, and their texts: SegFirst, SegText, the model's and the program's. -/
import Derived.Test.YtmlhpjkijpbinaqSecText
import Derived.Deep.Cut
namespace Go.Proofs.Ytmlhpjkijpbinaq
open Go.RowKit

/-- The first sector of a segment. -/
def sgF (s : Int) : Int := if 0 ≤ s ∧ s ≤ 10 then 8 + 8 * s else 0
theorem sgF_yes {s : Int} (h : 0 ≤ s ∧ s ≤ 10) : sgF s = 8 + 8 * s := if_pos h
theorem sgF_no {s : Int} (h : ¬ (0 ≤ s ∧ s ≤ 10)) : sgF s = 0 := if_neg h

/-- The text of a segment. -/
def sgT (d : Dk) (s : Int) : ByteArray := if 0 ≤ s ∧ s ≤ 10 then (match stL d (8 + 8 * s) 8 with
  | some l => ⟨l.toArray⟩
  | none => ⟨#[]⟩) else ⟨#[]⟩
theorem sgT_no {d : Dk} {s : Int} (h : ¬ (0 ≤ s ∧ s ≤ 10)) : sgT d s = ⟨#[]⟩ := if_neg h
theorem sgT_yes {d : Dk} {s : Int} (h : 0 ≤ s ∧ s ≤ 10) : ∃ f : Bool, stT d (8 + 8 * s) 8 = .tuple #[.string (sgT d s), .bool f] := by
  unfold sgT
  rw [if_pos h]
  cases hl : stL d (8 + 8 * s) 8 with
  | some l => exact ⟨true, stT_some (n := 8) (by omega) hl⟩
  | none => exact ⟨false, stT_none (n := 8) hl⟩

theorem rdO_sizeM {d : Dk} {a : Int} {t : ByteArray} {M : Nat} (h : rdO d a = some t) (ht : ∀ s ∈ d.sec, s.size ≤ M) (hu : ∀ x ∈ d.cache, x.text.size ≤ M) : t.size ≤ M := by
  have hin := rdO_in h
  unfold rdO at h
  rw [if_pos hin] at h
  cases hl : lastAt d.cache a with
  | some u =>
    rw [hl] at h
    obtain ⟨x, hx, e⟩ := lastAt_mem hl
    cases h
    rw [← e]; exact hu x hx
  | none =>
    rw [hl] at h
    have hk : a.toNat < d.sec.length := by omega
    simp [List.getD_eq_getElem?_getD, List.getElem?_eq_getElem hk] at h
    rw [← h]; exact ht _ (List.getElem_mem hk)

theorem stL_size {d : Dk} {a : Int} {M : Nat} (ht : ∀ s ∈ d.sec, s.size ≤ M) (hu : ∀ x ∈ d.cache, x.text.size ≤ M) : ∀ (n : Nat) (l : List UInt8), stL d a n = some l → l.length ≤ n * M := by
  intro n
  induction n with
  | zero => intro l h; unfold stL at h; cases h; simp
  | succ n ih =>
    intro l h
    unfold stL at h
    cases hl : stL d a n with
    | none => rw [hl] at h; cases h
    | some l0 =>
      rw [hl] at h
      cases hr : rdO d (a + (n : Int)) with
      | none => simp only [hr] at h; cases h
      | some t =>
        simp only [hr] at h
        cases h
        have h1 := ih l0 hl
        have h2 := rdO_sizeM hr ht hu
        have h3 : t.data.toList.length = t.size := by rw [Array.length_toList]; rfl
        rw [List.length_append, Nat.succ_mul]; omega

theorem sgT_size {d : Dk} {M : Nat} (ht : ∀ s ∈ d.sec, s.size ≤ M) (hu : ∀ x ∈ d.cache, x.text.size ≤ M) (s : Int) : (sgT d s).size ≤ 8 * M := by
  unfold sgT
  split
  · cases hl : stL d (8 + 8 * s) 8 with
    | some l => exact stL_size ht hu 8 l hl
    | none => exact Nat.zero_le _
  · exact Nat.zero_le _

theorem segNumberOk_any (s : Int) (w : World) :
    Calls Try.prog 13 #[.int .i64 s] w fun e w' => e = .returned (.bool (decide (0 ≤ s ∧ s ≤ 10))) ∧ w = w' := by
  by_cases h1 : 0 ≤ s
  · have g2 : decide (s < 11) = decide (0 ≤ s ∧ s ≤ 10) := decide_eq_decide.2 ⟨fun h => ⟨h1, by omega⟩, fun h => by omega⟩
    rw [← g2]
    clear g2
    go_enter Try.func13, Try.ntmps13
    go_wp2
    go_ret
    exact ⟨rfl, rfl⟩
  · rw [decide_eq_false (show ¬ (0 ≤ s ∧ s ≤ 10) by omega)]
    go_enter Try.func13, Try.ntmps13
    go_wp2
    go_ret
    exact ⟨rfl, rfl⟩

theorem implSegFirst_any (s : Int) (w : World) :
    Calls Try.prog 6 #[.int .i64 s] w fun e w' => e = .returned (.int .i64 (sgF s)) ∧ w = w' := by
  by_cases h : 0 ≤ s ∧ s ≤ 10
  · rw [sgF_yes h]
    have hd := decide_eq_true h
    go_enter Try.func6, Try.ntmps6
    go_wp2_with (go_at_call 13; refine (segNumberOk_any _ _).mono ?_; rintro e w1 ⟨rfl, rfl⟩; rw [hd])
    go_ret
    exact ⟨rfl, rfl⟩
  · rw [sgF_no h]
    have hd := decide_eq_false h
    go_enter Try.func6, Try.ntmps6
    go_wp2_with (go_at_call 13; refine (segNumberOk_any _ _).mono ?_; rintro e w1 ⟨rfl, rfl⟩; rw [hd])
    go_ret
    exact ⟨rfl, rfl⟩

theorem specSegFirst_any (s : Int) (w : World) :
    Calls Try.prog 5 #[.int .i64 s] w fun e w' => e = .returned (.int .i64 (sgF s)) ∧ w = w' := by
  by_cases h : 0 ≤ s ∧ s ≤ 10
  · rw [sgF_yes h]
    go_enter Try.func5, Try.ntmps5
    go_wp2_with (go_at_call 12; refine (in_yes _ _ _ _ (by omega) (by omega)).mono ?_; rintro e w5 ⟨rfl, rfl⟩)
    go_ret
    exact ⟨congrArg (fun z => Ending.returned (.int .i64 z)) (by omega), rfl⟩
  · rw [sgF_no h]
    go_enter Try.func5, Try.ntmps5
    go_wp2_with (go_at_call 12; refine (in_no _ _ _ _ h).mono ?_; rintro e w5 ⟨rfl, rfl⟩)
    go_ret
    exact ⟨rfl, rfl⟩

set_option maxRecDepth 100000 in
set_option maxHeartbeats 1000000 in
theorem implSegText_any (d : Dk) (v : Value) (s : Int) (w : World) (h : DRd w v d) (hs : d.small) (ht : ∀ s ∈ d.sec, s.size ≤ 1099511627776) (hu : ∀ x ∈ d.cache, x.text.size ≤ 1099511627776) :
    Calls Try.prog 10 #[v, .int .i64 s] w fun e w' => e = .returned (.string (sgT d s)) ∧ Below w.heap.size w w' := by
  obtain ⟨aa, ab, ca, cb, rfl, _, _⟩ := h.form
  have hx := Box.new w #[.slice aa d.sec.length ca, .slice ab d.cache.length cb] 32
  have b0 : Below w.heap.size w (w.alloc (.cells #[.slice aa d.sec.length ca, .slice ab d.cache.length cb] 32)) := (Below.refl _ _).alloc (Nat.le_refl _) _
  have h' := h.later b0
  by_cases hin : 0 ≤ s ∧ s ≤ 10
  · have hd := decide_eq_true hin
    obtain ⟨f, hf⟩ := sgT_yes (d := d) hin
    have HF := Lib.hid hf
    have hsf := sgF_yes hin
    clear hf h
    go_enter Try.func10, Try.ntmps10
    go_upto_region 3 with (go_at_call 13; refine (segNumberOk_any _ _).mono ?_; rintro e w1 ⟨rfl, rfl⟩; rw [hd])
    generalize w.alloc (.cells #[.slice aa d.sec.length ca, .slice ab d.cache.length cb] 32) = W at hx b0 h' ⊢
    have hD := h'.later ((Below.refl W.heap.size W).drew)
    have c0 := hx.cell 0 (.slice aa d.sec.length ca) rfl
    have c1 := hx.cell 1 (.slice ab d.cache.length cb) rfl
    have HS : Hid (∀ x, Below W.drew.heap.size W.drew x → x.cell? ⟨w.heap.size, 0, none⟩ = some (.slice aa d.sec.length ca) ∧ x.cell? ⟨w.heap.size, 1, none⟩ = some (.slice ab d.cache.length cb) ∧ Below w.heap.size w x) := by
      intro x hb
      have hb2 : Below W.heap.size W x := ((Below.refl W.heap.size W).drew).trans hb
      exact ⟨(hx.later hb2).cell 0 _ rfl, (hx.later hb2).cell 1 _ rfl, b0.trans (hb2.mono b0.size)⟩
    clear hx h'
    go_region_held3 (fun x => x.cell? ⟨w.heap.size, 0, none⟩ = some (.slice aa d.sec.length ca) ∧ x.cell? ⟨w.heap.size, 1, none⟩ = some (.slice ab d.cache.length cb))
      (first | go_keep | exact ⟨(HS.out _ k2).1, (HS.out _ k2).2.1⟩)
      (first
        | (go_at_call 6; refine (implSegFirst_any _ _).mono ?_; rintro e w1 ⟨rfl, rfl⟩; rw [hsf])
        | (go_at_call 19; refine (implSectorText_any d _ (8 + 8 * s) 8 _ hD hs ht hu (by omega)).mono ?_; rintro e w2 ⟨rfl, k2⟩; rw [HF.out]))
    all_goals
      go_wp2
      go_ret
      exact ⟨rfl, (HS.out _ k2).2.2⟩
  · rw [sgT_no hin]
    have hd := decide_eq_false hin
    clear h h'
    go_enter Try.func10, Try.ntmps10
    go_wp2_with (go_at_call 13; refine (segNumberOk_any _ _).mono ?_; rintro e w1 ⟨rfl, rfl⟩; rw [hd])
    go_ret
    exact ⟨rfl, b0⟩

set_option maxRecDepth 100000 in
set_option maxHeartbeats 1000000 in
theorem specSegText_any (d : Dk) (v : Value) (s : Int) (w : World) (h : DRd w v d) (hs : d.small) (ht : ∀ s ∈ d.sec, s.size ≤ 1099511627776) (hu : ∀ x ∈ d.cache, x.text.size ≤ 1099511627776) :
    Calls Try.prog 8 #[v, .int .i64 s] w fun e w' => e = .returned (.string (sgT d s)) ∧ Below w.heap.size w w' := by
  obtain ⟨aa, ab, ca, cb, rfl, _, _⟩ := h.form
  have hx := Box.new w #[.slice aa d.sec.length ca, .slice ab d.cache.length cb] 32
  have b0 : Below w.heap.size w (w.alloc (.cells #[.slice aa d.sec.length ca, .slice ab d.cache.length cb] 32)) := (Below.refl _ _).alloc (Nat.le_refl _) _
  have h' := h.later b0
  by_cases hin : 0 ≤ s ∧ s ≤ 10
  · obtain ⟨f, hf⟩ := sgT_yes (d := d) hin
    have HF := Lib.hid hf
    have hsf := sgF_yes hin
    clear hf h
    go_enter Try.func8, Try.ntmps8
    go_upto_region 3 with (go_at_call 12; refine (in_yes _ _ _ _ (by omega) (by omega)).mono ?_; rintro e w5 ⟨rfl, rfl⟩)
    generalize w.alloc (.cells #[.slice aa d.sec.length ca, .slice ab d.cache.length cb] 32) = W at hx b0 h' ⊢
    have hD := h'.later ((Below.refl W.heap.size W).drew)
    have c0 := hx.cell 0 (.slice aa d.sec.length ca) rfl
    have c1 := hx.cell 1 (.slice ab d.cache.length cb) rfl
    have HS : Hid (∀ x, Below W.drew.heap.size W.drew x → x.cell? ⟨w.heap.size, 0, none⟩ = some (.slice aa d.sec.length ca) ∧ x.cell? ⟨w.heap.size, 1, none⟩ = some (.slice ab d.cache.length cb) ∧ Below w.heap.size w x) := by
      intro x hb
      have hb2 : Below W.heap.size W x := ((Below.refl W.heap.size W).drew).trans hb
      exact ⟨(hx.later hb2).cell 0 _ rfl, (hx.later hb2).cell 1 _ rfl, b0.trans (hb2.mono b0.size)⟩
    clear hx h'
    go_region_held3 (fun x => x.cell? ⟨w.heap.size, 0, none⟩ = some (.slice aa d.sec.length ca) ∧ x.cell? ⟨w.heap.size, 1, none⟩ = some (.slice ab d.cache.length cb))
      (first | go_keep | exact ⟨(HS.out _ k2).1, (HS.out _ k2).2.1⟩)
      (first
        | (go_at_call 5; refine (specSegFirst_any _ _).mono ?_; rintro e w1 ⟨rfl, rfl⟩; rw [hsf])
        | (go_at_call 16; refine (specSectorText_any d _ (8 + 8 * s) 8 _ hD hs ht hu).mono ?_; rintro e w2 ⟨rfl, k2⟩; rw [HF.out]))
    all_goals
      go_wp2
      go_ret
      exact ⟨rfl, (HS.out _ k2).2.2⟩
  · rw [sgT_no hin]
    clear h h'
    go_enter Try.func8, Try.ntmps8
    go_wp2_with (go_at_call 12; refine (in_no _ _ _ _ hin).mono ?_; rintro e w5 ⟨rfl, rfl⟩)
    go_ret
    exact ⟨rfl, b0⟩

end Go.Proofs.Ytmlhpjkijpbinaq
