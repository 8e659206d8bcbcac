/- Frames: what the model's ReadFrame hands back. -/
import Derived.Test.YtmmgnpjhlmiafabDoorReadFrame
namespace Go.Proofs.YtmmgnpjhlmiafabDoor
open Go.RowKit

theorem specReadFrame_form (s t : ByteArray) (k e : Nat) : (t.toList == (s.extract k e).toList) = decide (t = s.extract k e) := by
  by_cases h : t = s.extract k e
  · simp [h]
  · have : ¬ t.toList = (s.extract k e).toList := fun e => h (by rw [ByteArray.toList_eq, ByteArray.toList_eq] at e; exact ba_ext e)
    rw [decide_eq_false h]
    simp [this]

set_option maxRecDepth 100000 in
set_option maxHeartbeats 2000000 in
theorem specReadFrame_any (s : ByteArray) (a : Int) (w : World) (hs : s.size ≤ 1099511627776) :
    Calls Tryd.prog 15 #[.string s, .int .i64 a] w fun e w' => e = .returned (rfT s a) ∧ Below w.heap.size w w' := by
  have b0 : Below w.heap.size w (w.alloc (.cells #[.int .i64 0, .int .i64 0, .string ⟨#[]⟩] 30)) := (Below.refl _ _).alloc (Nat.le_refl _) _
  have hx := Box.new w #[.int .i64 0, .int .i64 0, .string ⟨#[]⟩] 30
  have HC : Hid (∀ x, Below (w.alloc (.cells #[.int .i64 0, .int .i64 0, .string ⟨#[]⟩] 30)).heap.size (w.alloc (.cells #[.int .i64 0, .int .i64 0, .string ⟨#[]⟩] 30)) x → Box x w.heap.size #[.int .i64 0, .int .i64 0, .string ⟨#[]⟩] 30 ∧ Below w.heap.size w x) :=
    fun x h => ⟨hx.later h, b0.trans (h.mono b0.size)⟩
  have HV : Hid (∀ a, ∃ (n b : Nat) (f : Bool), rvT s a = .tuple #[.int .i64 n, .int .i64 b, .bool f]) := fun a => rvT_form' s a
  have HS : Hid (∀ a, ∃ (t : ByteArray) (b : Int) (f : Bool), rsT s a = .tuple #[.string t, .int .i64 b, .bool f]) := fun a => rsT_form' s a
  clear hx
  rcases ru_cases s a with ⟨h1, h2⟩ | ⟨g, a1, h1, h3, h2⟩ | ⟨g, a1, q, b1, h1, h3, h4, h2⟩ | ⟨g, a1, q, b1, t, e, h1, h3, h4, h2⟩
  · have H1 := Lib.hid h1
    have HZ := Lib.hid (rfT_none (rfA_none h2))
    clear h1 h2
    go_enter Tryd.func15, Tryd.ntmps15
    go_wp2_with fail
    generalize w.alloc (.cells #[.int .i64 0, .int .i64 0, .string ⟨#[]⟩] 30) = W at *
    refine (specReadVar_any _ _ _ hs).mono ?_
    rintro e' w1 ⟨rfl, l1⟩
    rw [H1.out, zeroT]
    have k1 := l1
    obtain ⟨n2, c2, g2, H2⟩ := HV.out 0
    have H2 := Lib.hid H2
    go_wp2_with fail
    refine (specReadVar_any _ _ _ hs).mono ?_
    rintro e' w2 ⟨rfl, l2⟩
    rw [H2.out]
    have k2 := k1.trans (l2.mono k1.size)
    obtain ⟨t3, c3, g3, H3⟩ := HS.out c2
    have H3 := Lib.hid H3
    go_wp2_with fail
    refine (specReadShort_any _ _ _ hs).mono ?_
    rintro e' w3 ⟨rfl, l3⟩
    rw [H3.out]
    have k3 := k2.trans (l3.mono k2.size)
    have y4 := Box.new w3 #[.int .i64 0, .int .i64 (n2 : Int), .string t3] 30
    have k4 : Below W.heap.size W (w3.alloc (.cells #[.int .i64 0, .int .i64 (n2 : Int), .string t3] 30)) := k3.alloc k3.size _
    go_upto_region 5 with fail
    generalize w3.alloc (.cells #[.int .i64 0, .int .i64 (n2 : Int), .string t3] 30) = w4 at y4 k4 ⊢
    obtain ⟨x4, b4'⟩ := HC.out _ k4
    obtain ⟨c0, c1, c2, f0, f1, f2⟩ := x4.three
    go_wp2
    have y := x4.set3 (.int .i64 0) (.int .i64 0) (.string ⟨#[]⟩)
    obtain ⟨q0, q1, q2, _⟩ := y.three
    unfold set3 at q0 q1 q2
    refine bodyPost_ret (v := .tuple #[zeroFr.v, .int .i64 0, .bool false]) (by simp [results, Tryd.results15, go_sem, q0, q1, q2, Fr.v, zeroFr]) rfl ?_
    exact ⟨by rw [HZ.out], below_set3 b4' (Nat.le_refl _) _ _ _⟩
  · have H1 := Lib.hid h1
    have H2 := Lib.hid h3
    have HZ := Lib.hid (rfT_none (rfA_none h2))
    clear h1 h2 h3
    go_enter Tryd.func15, Tryd.ntmps15
    go_wp2_with fail
    generalize w.alloc (.cells #[.int .i64 0, .int .i64 0, .string ⟨#[]⟩] 30) = W at *
    refine (specReadVar_any _ _ _ hs).mono ?_
    rintro e' w1 ⟨rfl, l1⟩
    rw [H1.out]
    have k1 := l1
    go_wp2_with fail
    refine (specReadVar_any _ _ _ hs).mono ?_
    rintro e' w2 ⟨rfl, l2⟩
    rw [H2.out, zeroT]
    have k2 := k1.trans (l2.mono k1.size)
    obtain ⟨t3, c3, g3, H3⟩ := HS.out 0
    have H3 := Lib.hid H3
    go_wp2_with fail
    refine (specReadShort_any _ _ _ hs).mono ?_
    rintro e' w3 ⟨rfl, l3⟩
    rw [H3.out]
    have k3 := k2.trans (l3.mono k2.size)
    have y4 := Box.new w3 #[.int .i64 (g : Int), .int .i64 0, .string t3] 30
    have k4 : Below W.heap.size W (w3.alloc (.cells #[.int .i64 (g : Int), .int .i64 0, .string t3] 30)) := k3.alloc k3.size _
    go_upto_region 5 with fail
    generalize w3.alloc (.cells #[.int .i64 (g : Int), .int .i64 0, .string t3] 30) = w4 at y4 k4 ⊢
    obtain ⟨x4, b4'⟩ := HC.out _ k4
    obtain ⟨c0, c1, c2, f0, f1, f2⟩ := x4.three
    go_wp2
    have y := x4.set3 (.int .i64 0) (.int .i64 0) (.string ⟨#[]⟩)
    obtain ⟨q0, q1, q2, _⟩ := y.three
    unfold set3 at q0 q1 q2
    refine bodyPost_ret (v := .tuple #[zeroFr.v, .int .i64 0, .bool false]) (by simp [results, Tryd.results15, go_sem, q0, q1, q2, Fr.v, zeroFr]) rfl ?_
    exact ⟨by rw [HZ.out], below_set3 b4' (Nat.le_refl _) _ _ _⟩
  · have H1 := Lib.hid h1
    have H2 := Lib.hid h3
    have H3 := Lib.hid h4
    have HZ := Lib.hid (rfT_none (rfA_none h2))
    clear h1 h2 h3 h4
    go_enter Tryd.func15, Tryd.ntmps15
    go_wp2_with fail
    generalize w.alloc (.cells #[.int .i64 0, .int .i64 0, .string ⟨#[]⟩] 30) = W at *
    refine (specReadVar_any _ _ _ hs).mono ?_
    rintro e' w1 ⟨rfl, l1⟩
    rw [H1.out]
    have k1 := l1
    go_wp2_with fail
    refine (specReadVar_any _ _ _ hs).mono ?_
    rintro e' w2 ⟨rfl, l2⟩
    rw [H2.out]
    have k2 := k1.trans (l2.mono k1.size)
    go_wp2_with fail
    refine (specReadShort_any _ _ _ hs).mono ?_
    rintro e' w3 ⟨rfl, l3⟩
    rw [H3.out, zeroS]
    have k3 := k2.trans (l3.mono k2.size)
    have y4 := Box.new w3 #[.int .i64 (g : Int), .int .i64 (q : Int), .string ⟨#[]⟩] 30
    have k4 : Below W.heap.size W (w3.alloc (.cells #[.int .i64 (g : Int), .int .i64 (q : Int), .string ⟨#[]⟩] 30)) := k3.alloc k3.size _
    go_upto_region 5 with fail
    generalize w3.alloc (.cells #[.int .i64 (g : Int), .int .i64 (q : Int), .string ⟨#[]⟩] 30) = w4 at y4 k4 ⊢
    obtain ⟨x4, b4'⟩ := HC.out _ k4
    obtain ⟨c0, c1, c2, f0, f1, f2⟩ := x4.three
    go_wp2
    have y := x4.set3 (.int .i64 0) (.int .i64 0) (.string ⟨#[]⟩)
    obtain ⟨q0, q1, q2, _⟩ := y.three
    unfold set3 at q0 q1 q2
    refine bodyPost_ret (v := .tuple #[zeroFr.v, .int .i64 0, .bool false]) (by simp [results, Tryd.results15, go_sem, q0, q1, q2, Fr.v, zeroFr]) rfl ?_
    exact ⟨by rw [HZ.out], below_set3 b4' (Nat.le_refl _) _ _ _⟩
  · have H1 := Lib.hid h1
    have H2 := Lib.hid h3
    have H3 := Lib.hid h4
    obtain ⟨k, rfl, hk, hru⟩ := ruA_some h2
    obtain ⟨r1, r2, r3, r4, r5, r6⟩ := ru_raw hru hk
    have hrf := Lib.hid (rfA_nat hk)
    have HU := Lib.hid hru
    obtain ⟨f, hf⟩ : ∃ f : Fr, (⟨g, q, t⟩ : Fr) = f := ⟨_, rfl⟩
    have HF := Lib.hid hf
    have hv : Hid (f.v = .agg #[.int .i64 (g : Int), .int .i64 (q : Int), .string t]) := by rw [← hf]; rfl
    have hk0 : (0 : Int) ≤ (k : Int) := by omega
    have hke : (k : Int) ≤ (e : Int) := by omega
    rw [hf] at r6
    clear h1 h2 h3 h4 r1 r4 r5 hru hf
    go_enter Tryd.func15, Tryd.ntmps15
    go_wp2_with fail
    generalize w.alloc (.cells #[.int .i64 0, .int .i64 0, .string ⟨#[]⟩] 30) = W at *
    refine (specReadVar_any _ _ _ hs).mono ?_
    rintro e' w1 ⟨rfl, l1⟩
    rw [H1.out]
    have k1 := l1
    go_wp2_with fail
    refine (specReadVar_any _ _ _ hs).mono ?_
    rintro e' w2 ⟨rfl, l2⟩
    rw [H2.out]
    have k2 := k1.trans (l2.mono k1.size)
    go_wp2_with fail
    refine (specReadShort_any _ _ _ hs).mono ?_
    rintro e' w3 ⟨rfl, l3⟩
    rw [H3.out]
    have k3 := k2.trans (l3.mono k2.size)
    have y4 := Box.new w3 #[.int .i64 (g : Int), .int .i64 (q : Int), .string t] 30
    have k4 : Below W.heap.size W (w3.alloc (.cells #[.int .i64 (g : Int), .int .i64 (q : Int), .string t] 30)) := k3.alloc k3.size _
    go_upto_region 5 with fail
    generalize w3.alloc (.cells #[.int .i64 (g : Int), .int .i64 (q : Int), .string t] 30) = w4 at y4 k4 ⊢
    by_cases hlen : e + 4 ≤ s.size
    · obtain ⟨c0, c1, c2, _, _, _⟩ := y4.three
      have hl1 : (e : Int) ≤ (s.size : Int) - 4 := by omega
      go_wp2_with fail
      rw [← hv.out]
      refine (specFrameText_any f _ (by omega)).mono ?_
      rintro e' w5 ⟨rfl, l5⟩
      have j5 := k4.trans (l5.mono k4.size)
      have y5 := y4.later l5
      clear c0 c1 c2
      by_cases hok : f.ok
      · rw [ftT_yes hok]
        have hle := Fr.tx_le hok
        have hfm := specReadFrame_form s f.tx k (e + 4)
        by_cases hp : f.tx = s.extract k (e + 4)
        · have HZ := Lib.hid (rfT_some (hrf.out.trans (rf_yes HU.out (by rw [HF.out]; exact ⟨hok, hlen, hp⟩))))
          obtain ⟨g0, g1, g2, _, _, _⟩ := y5.three
          obtain ⟨x5, b5⟩ := HC.out _ j5
          obtain ⟨c0, c1, c2, f0, f1, f2⟩ := x5.three
          rw [decide_eq_true hp] at hfm
          clear hp hok
          go_wp2
          have y := x5.set3 (.int .i64 (g : Int)) (.int .i64 (q : Int)) (.string t)
          obtain ⟨q0, q1, q2, _⟩ := y.three
          unfold set3 at q0 q1 q2
          refine bodyPost_ret (v := .tuple #[Fr.v ⟨g, q, t⟩, .int .i64 ((e + 4 : Nat) : Int), .bool true]) (by simp [results, Tryd.results15, go_sem, q0, q1, q2, Fr.v]) rfl ?_
          exact ⟨by rw [HZ.out], below_set3 b5 (Nat.le_refl _) _ _ _⟩
        · have HZ := Lib.hid (rfT_none (hrf.out.trans (rf_no HU.out (by rw [HF.out]; exact fun h => hp h.2.2))))
          rw [decide_eq_false hp] at hfm
          clear hp hok
          obtain ⟨x5, b5'⟩ := HC.out _ j5
          obtain ⟨c0, c1, c2, f0, f1, f2⟩ := x5.three
          go_wp2
          have y := x5.set3 (.int .i64 0) (.int .i64 0) (.string ⟨#[]⟩)
          obtain ⟨q0, q1, q2, _⟩ := y.three
          unfold set3 at q0 q1 q2
          refine bodyPost_ret (v := .tuple #[zeroFr.v, .int .i64 0, .bool false]) (by simp [results, Tryd.results15, go_sem, q0, q1, q2, Fr.v, zeroFr]) rfl ?_
          exact ⟨by rw [HZ.out], below_set3 b5' (Nat.le_refl _) _ _ _⟩
      · rw [ftT_no hok]
        have HZ := Lib.hid (rfT_none (hrf.out.trans (rf_no HU.out (by rw [HF.out]; exact fun h => hok h.1))))
        clear hok
        obtain ⟨x5, b5'⟩ := HC.out _ j5
        obtain ⟨c0, c1, c2, f0, f1, f2⟩ := x5.three
        go_wp2
        have y := x5.set3 (.int .i64 0) (.int .i64 0) (.string ⟨#[]⟩)
        obtain ⟨q0, q1, q2, _⟩ := y.three
        unfold set3 at q0 q1 q2
        refine bodyPost_ret (v := .tuple #[zeroFr.v, .int .i64 0, .bool false]) (by simp [results, Tryd.results15, go_sem, q0, q1, q2, Fr.v, zeroFr]) rfl ?_
        exact ⟨by rw [HZ.out], below_set3 b5' (Nat.le_refl _) _ _ _⟩
    · have HZ := Lib.hid (rfT_none (hrf.out.trans (rf_no HU.out (fun h => hlen h.2.1))))
      have hl1 : (s.size : Int) - 4 < (e : Int) := by omega
      clear hlen
      obtain ⟨x4, b4'⟩ := HC.out _ k4
      obtain ⟨c0, c1, c2, f0, f1, f2⟩ := x4.three
      go_wp2
      have y := x4.set3 (.int .i64 0) (.int .i64 0) (.string ⟨#[]⟩)
      obtain ⟨q0, q1, q2, _⟩ := y.three
      unfold set3 at q0 q1 q2
      refine bodyPost_ret (v := .tuple #[zeroFr.v, .int .i64 0, .bool false]) (by simp [results, Tryd.results15, go_sem, q0, q1, q2, Fr.v, zeroFr]) rfl ?_
      exact ⟨by rw [HZ.out], below_set3 b4' (Nat.le_refl _) _ _ _⟩

end Go.Proofs.YtmmgnpjhlmiafabDoor
