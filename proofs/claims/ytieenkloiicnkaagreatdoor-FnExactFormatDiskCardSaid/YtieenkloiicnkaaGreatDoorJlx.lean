/- Texts of our own, joined. -/
import Derived.Test.YtieenkloiicnkaaGreatDoorJp
/- Whether a reference to a segment is there: refersTo of the program. -/
namespace Go.Proofs.YtieenkloiicnkaaGreatDoor
open Go.RowKit

set_option maxRecDepth 100000 in
theorem refers1_any (s : Rf) (k : Int) (g : Nat) (w : World) (h : w.cell? ⟨g, 0, none⟩ = some (.int .i64 k)) :
    Calls Tryz.prog 173 #[.agg #[.int .i64 s.1, .int .i64 s.2], .pointer (some ⟨g, 0, none⟩)] w fun e w' => e = .returned (.bool (decide (s.1 = k))) ∧ Below w.heap.size w w' := by
  have b1 := belNew w (.cells #[.int .i64 s.1, .int .i64 s.2] 124)
  have c0 := (b1.cell (p := ⟨g, 0, none⟩) (World.block_lt_of_cell? _ _ h)).trans h
  have q := (Box.new w #[.int .i64 s.1, .int .i64 s.2] 124).cell 0 _ rfl
  clear h
  obtain ⟨D, hD⟩ : ∃ D, decide (s.1 = k) = D := ⟨_, rfl⟩
  rw [hD]
  have HD := Lib.hid hD
  clear hD
  obtain ⟨s1, s2⟩ := s
  simp only at *
  by_cases hs : s1 = k
  · have HE : Hid (D = true) := by show _ = _; rw [← HD.out]; exact decide_eq_true hs
    clear HD
    subst hs
    go_enter Tryz.func173, Tryz.ntmps173
    go_wp2
    go_ret
    exact ⟨by rw [HE.out]; first | rfl | simp, b1⟩
  · have HE : Hid (D = false) := by show _ = _; rw [← HD.out]; exact decide_eq_false hs
    clear HD
    have hs' : (s1 == k) = false := beq_eq_false_iff_ne.2 hs
    go_enter Tryz.func173, Tryz.ntmps173
    go_wp2
    go_ret
    exact ⟨by rw [HE.out]; first | rfl | simp [hs'], b1⟩

set_option maxRecDepth 100000 in
set_option maxHeartbeats 2000000 in
theorem indexRef_any (l : List Rf) (v : Value) (k : Int) (gr : Nat) (w : World) (h : Rows' rfE w v l) (hl : l.length ≤ 1048576) (h0 : w.cell? ⟨gr, 0, none⟩ = some (.int .i64 k)) :
    Calls Tryz.prog 182 #[v, .func (.func 173) #[] #[.pointer (some ⟨gr, 0, none⟩)]] w fun e w' => (∃ r : Int, e = .returned (.int .i64 r) ∧ ((0 ≤ r ∧ hasR l k = true) ∨ (¬ 0 ≤ r ∧ hasR l k = false))) ∧ Below w.heap.size w w' := by
  obtain ⟨ad, cap, rfl, hrow⟩ := h.refs
  have HR : Hid _ := hrow
  clear h hrow
  obtain ⟨n, hn⟩ : ∃ n, l.length = n := ⟨_, rfl⟩
  rw [hn] at hl ⊢
  have HN := Lib.hid hn
  clear hn
  have l0 := World.block_lt_of_cell? _ _ h0
  have HO : Hid (∀ (y : Rf) x, Below w.heap.size w x → Calls Tryz.prog 173 #[.agg #[.int .i64 y.1, .int .i64 y.2], .pointer (some ⟨gr, 0, none⟩)] x fun e w' => e = .returned (.bool (decide (y.1 = k))) ∧ Below x.heap.size x w') := fun y x hx => refers1_any y k gr x ((hx.cell (p := ⟨gr, 0, none⟩) l0).trans h0)
  clear h0 l0
  obtain ⟨Q, hQ⟩ : ∃ Q, hasR l k = Q := ⟨_, rfl⟩
  rw [hQ]
  have HQ := Lib.hid hQ
  clear hQ
  go_enter Tryz.func182, Tryz.ntmps182
  go_wp2
  go_loopw [8] (fun iv wr => ∃ i : Nat, i ≤ n ∧ iv = .int .i64 (i : Int) ∧ Hid (hasR (l.take i) k = false) ∧ Below w.heap.size w wr) (fun iv _ => n - (intOf iv).toNat)
  case atStart => exact ⟨0, by omega, rfl, show _ = _ by simp [hasR], Below.refl _ _⟩
  case round =>
    obtain ⟨i, hi, rfl, HNO, bq⟩ := hrel
    by_cases hlt : i < n
    · obtain ⟨y, hgy⟩ : ∃ y, l[i]? = some y := ⟨_, List.getElem?_eq_getElem (by rw [HN.out]; omega)⟩
      obtain ⟨ga, oa, rfl, a0, a1⟩ := HR.out _ bq i y hgy
      have HOY := Lib.hid (HO.out y _ bq)
      have HT := Lib.hid (hasR_take hgy k)
      rw [HNO.out, Bool.false_or] at HT
      have HFA : Hid (decide (y.1 = k) = true → Q = true) := fun hy => by rw [← HQ.out]; exact List.any_eq_true.2 ⟨y, List.mem_of_getElem? hgy, hy⟩
      clear hgy
      generalize decide (y.1 = k) = D at HOY HT HFA
      have hi0 : (0 : Int) ≤ (i : Int) := by omega
      have hi1 : (i : Int) < (n : Int) := by omega
      cases D with
      | true =>
        have HF := Lib.hid (HFA.out rfl)
        clear HFA HT
        go_wp2_with (go_at_call 173; refine HOY.out.mono ?_; rintro e w1 ⟨rfl, k1⟩)
        go_ret
        exact ⟨⟨(i : Int), rfl, .inl ⟨hi0, HF.out⟩⟩, bq.trans (k1.mono bq.size)⟩
      | false =>
        clear HFA
        go_wp2_with (go_at_call 173; refine HOY.out.mono ?_; rintro e w1 ⟨rfl, k1⟩)
        exact ⟨⟨i + 1, by omega, by simp, HT, bq.trans (k1.mono bq.size)⟩, by first | omega | (simp [intOf]; omega)⟩
    · have HF : Hid (Q = false) := by
        have h1 := HNO.out
        rw [List.take_of_length_le (by rw [HN.out]; omega)] at h1
        rw [← HQ.out]
        exact h1
      clear HNO
      go_wp2
      go_ret
      exact ⟨⟨-1, rfl, .inr ⟨by omega, HF.out⟩⟩, bq⟩

set_option maxRecDepth 100000 in
theorem containsRef_any (l : List Rf) (v : Value) (k : Int) (gr : Nat) (w : World) (h : Rows' rfE w v l) (hl : l.length ≤ 1048576) (h0 : w.cell? ⟨gr, 0, none⟩ = some (.int .i64 k)) :
    Calls Tryz.prog 172 #[v, .func (.func 173) #[] #[.pointer (some ⟨gr, 0, none⟩)]] w fun e w' => e = .returned (.bool (hasR l k)) ∧ Below w.heap.size w w' := by
  have HI := Lib.hid (indexRef_any l v k gr w h hl h0)
  obtain ⟨ad, cap, rfl, _⟩ := h.refs
  clear h h0
  go_enter Tryz.func172, Tryz.ntmps172
  go_wp2_with fail
  refine HI.out.mono ?_
  rintro e w1 ⟨⟨r, rfl, hr⟩, k1⟩
  clear HI
  rcases hr with ⟨hr, he⟩ | ⟨hr, he⟩
  · have HE := Lib.hid he
    clear he
    go_wp2
    go_ret
    exact ⟨by rw [HE.out]; first | rfl | simp [hr], k1⟩
  · have HE := Lib.hid he
    clear he
    go_wp2
    go_ret
    exact ⟨by rw [HE.out]; first | rfl | simp [hr], k1⟩

set_option maxRecDepth 100000 in
theorem refersTo_any (l : List Rf) (v : Value) (k : Int) (w : World) (h : Rows' rfE w v l) (hl : l.length ≤ 1048576) :
    Calls Tryz.prog 155 #[v, .int .i64 k] w fun e w' => e = .returned (.bool (hasR l k)) ∧ Below w.heap.size w w' := by
  have b1 := belNew w (.cells #[.int .i64 k] 3)
  have q := (Box.new w #[.int .i64 k] 3).cell 0 _ rfl
  have HC := Lib.hid (containsRef_any l v k w.heap.size _ (h.later b1) hl q)
  obtain ⟨ad, cap, rfl, _⟩ := h.refs
  have hmf : ∀ (fn : Fn) (first cap : Array Value) (w : World), (Instr.makeFunc fn first cap).run Tryz.prog w = .ok (.func fn first cap) w := fun _ _ _ _ => rfl
  generalize hasR l k = D at HC
  clear h q
  go_enter Tryz.func155, Tryz.ntmps155
  go_wp2_with (go_at_call 172; refine HC.out.mono ?_; rintro e w1 ⟨rfl, k1⟩)
  go_ret
  exact ⟨rfl, b1.trans (k1.mono b1.size)⟩

end Go.Proofs.YtieenkloiicnkaaGreatDoor
