/- Texts of our own, joined. -/
import Derived.Test.YtieenkloiicnkaaGreatDoorJf
import Derived.Test.YtieenkloiicnkaaGreatDoorJa
import Derived.Laws.OwnMore
import Derived.Test.YtieenkloiicnkaaGreatDoorJe
import Derived.Test.YtieenkloiicnkaaGreatDoorJb
import Derived.RangeFuncNested
import Derived.RangeFuncBound
import Derived.RangeFuncCalls
import Derived.RangeFuncLeaves
import Derived.RangeFuncBox
import Derived.Maps.OwnIn
import Derived.Shelf.Abstract
import Derived.Shelf.RegionOpen
import Derived.OwnWalkIn
import Derived.TacticsInMore
import Derived.LoopNIn
import Derived.LoopIn
import Derived.Sort.QuietIn
import Derived.Sort.CutIn
/- Frames: what the model's ReadFrame hands back. -/
namespace Go.Proofs.YtieenkloiicnkaaGreatDoor
open Go.RowKit

theorem specReadFrame_form (s t : ByteArray) (k e : Nat) : (t.toList == (s.extract k e).toList) = decide (t = s.extract k e) := by
  by_cases h : t = s.extract k e
  · simp [h]
  · have : ¬ t.toList = (s.extract k e).toList := fun e => h (by rw [ByteArray.toList_eq, ByteArray.toList_eq] at e; exact ba_ext e)
    rw [decide_eq_false h]
    simp [this]

set_option maxRecDepth 100000 in
set_option maxHeartbeats 2000000 in
theorem specReadFrame_any (s : ByteArray) (a : Int) (w : World) (hs : s.size ≤ 1099511627776) :
    Calls Tryz.prog 108 #[.string s, .int .i64 a] w fun e w' => e = .returned (rfT s a) ∧ Below w.heap.size w w' := by
  have b0 : Below w.heap.size w (w.alloc (.cells #[.int .i64 0, .int .i64 0, .string ⟨#[]⟩] 69)) := (Below.refl _ _).alloc (Nat.le_refl _) _
  have hx := Box.new w #[.int .i64 0, .int .i64 0, .string ⟨#[]⟩] 69
  have HC : Hid (∀ x, Below (w.alloc (.cells #[.int .i64 0, .int .i64 0, .string ⟨#[]⟩] 69)).heap.size (w.alloc (.cells #[.int .i64 0, .int .i64 0, .string ⟨#[]⟩] 69)) x → Box x w.heap.size #[.int .i64 0, .int .i64 0, .string ⟨#[]⟩] 69 ∧ Below w.heap.size w x) :=
    fun x h => ⟨hx.later h, b0.trans (h.mono b0.size)⟩
  have HV : Hid (∀ a, ∃ (n b : Nat) (f : Bool), rvT s a = .tuple #[.int .i64 n, .int .i64 b, .bool f]) := fun a => rvT_form' s a
  have HS : Hid (∀ a, ∃ (t : ByteArray) (b : Int) (f : Bool), rsT s a = .tuple #[.string t, .int .i64 b, .bool f]) := fun a => rsT_form' s a
  clear hx
  rcases ru_cases s a with ⟨h1, h2⟩ | ⟨g, a1, h1, h3, h2⟩ | ⟨g, a1, q, b1, h1, h3, h4, h2⟩ | ⟨g, a1, q, b1, t, e, h1, h3, h4, h2⟩
  · have H1 := Lib.hid h1
    have HZ := Lib.hid (rfT_none (rfA_none h2))
    clear h1 h2
    go_enter Tryz.func108, Tryz.ntmps108
    go_wp2_with fail
    generalize w.alloc (.cells #[.int .i64 0, .int .i64 0, .string ⟨#[]⟩] 69) = W at *
    refine (specReadVar_any _ _ _ hs).mono ?_
    rintro e' w1 ⟨rfl, l1⟩
    rw [H1.out, zeroT]
    have k1 := l1
    obtain ⟨n2, c2, g2, H2⟩ := HV.out 0
    have H2 := Lib.hid H2
    go_wp2_with fail
    refine (specReadVar_any _ _ _ hs).mono ?_
    rintro e' w2 ⟨rfl, l2⟩
    rw [H2.out]
    have k2 := k1.trans (l2.mono k1.size)
    obtain ⟨t3, c3, g3, H3⟩ := HS.out c2
    have H3 := Lib.hid H3
    go_wp2_with fail
    refine (specReadShort_any _ _ _ hs).mono ?_
    rintro e' w3 ⟨rfl, l3⟩
    rw [H3.out]
    have k3 := k2.trans (l3.mono k2.size)
    have y4 := Box.new w3 #[.int .i64 0, .int .i64 (n2 : Int), .string t3] 69
    have k4 : Below W.heap.size W (w3.alloc (.cells #[.int .i64 0, .int .i64 (n2 : Int), .string t3] 69)) := k3.alloc k3.size _
    go_upto_region 5 with fail
    generalize w3.alloc (.cells #[.int .i64 0, .int .i64 (n2 : Int), .string t3] 69) = w4 at y4 k4 ⊢
    obtain ⟨x4, b4'⟩ := HC.out _ k4
    obtain ⟨c0, c1, c2, f0, f1, f2⟩ := x4.three
    go_wp2
    have y := x4.set3 (.int .i64 0) (.int .i64 0) (.string ⟨#[]⟩)
    obtain ⟨q0, q1, q2, _⟩ := y.three
    unfold set3 at q0 q1 q2
    refine bodyPost_ret (v := .tuple #[zeroFr.v, .int .i64 0, .bool false]) (by simp [results, Tryz.results108, go_sem, q0, q1, q2, Fr.v, zeroFr]) rfl ?_
    exact ⟨by rw [HZ.out], below_set3 b4' (Nat.le_refl _) _ _ _⟩
  · have H1 := Lib.hid h1
    have H2 := Lib.hid h3
    have HZ := Lib.hid (rfT_none (rfA_none h2))
    clear h1 h2 h3
    go_enter Tryz.func108, Tryz.ntmps108
    go_wp2_with fail
    generalize w.alloc (.cells #[.int .i64 0, .int .i64 0, .string ⟨#[]⟩] 69) = W at *
    refine (specReadVar_any _ _ _ hs).mono ?_
    rintro e' w1 ⟨rfl, l1⟩
    rw [H1.out]
    have k1 := l1
    go_wp2_with fail
    refine (specReadVar_any _ _ _ hs).mono ?_
    rintro e' w2 ⟨rfl, l2⟩
    rw [H2.out, zeroT]
    have k2 := k1.trans (l2.mono k1.size)
    obtain ⟨t3, c3, g3, H3⟩ := HS.out 0
    have H3 := Lib.hid H3
    go_wp2_with fail
    refine (specReadShort_any _ _ _ hs).mono ?_
    rintro e' w3 ⟨rfl, l3⟩
    rw [H3.out]
    have k3 := k2.trans (l3.mono k2.size)
    have y4 := Box.new w3 #[.int .i64 (g : Int), .int .i64 0, .string t3] 69
    have k4 : Below W.heap.size W (w3.alloc (.cells #[.int .i64 (g : Int), .int .i64 0, .string t3] 69)) := k3.alloc k3.size _
    go_upto_region 5 with fail
    generalize w3.alloc (.cells #[.int .i64 (g : Int), .int .i64 0, .string t3] 69) = w4 at y4 k4 ⊢
    obtain ⟨x4, b4'⟩ := HC.out _ k4
    obtain ⟨c0, c1, c2, f0, f1, f2⟩ := x4.three
    go_wp2
    have y := x4.set3 (.int .i64 0) (.int .i64 0) (.string ⟨#[]⟩)
    obtain ⟨q0, q1, q2, _⟩ := y.three
    unfold set3 at q0 q1 q2
    refine bodyPost_ret (v := .tuple #[zeroFr.v, .int .i64 0, .bool false]) (by simp [results, Tryz.results108, go_sem, q0, q1, q2, Fr.v, zeroFr]) rfl ?_
    exact ⟨by rw [HZ.out], below_set3 b4' (Nat.le_refl _) _ _ _⟩
  · have H1 := Lib.hid h1
    have H2 := Lib.hid h3
    have H3 := Lib.hid h4
    have HZ := Lib.hid (rfT_none (rfA_none h2))
    clear h1 h2 h3 h4
    go_enter Tryz.func108, Tryz.ntmps108
    go_wp2_with fail
    generalize w.alloc (.cells #[.int .i64 0, .int .i64 0, .string ⟨#[]⟩] 69) = W at *
    refine (specReadVar_any _ _ _ hs).mono ?_
    rintro e' w1 ⟨rfl, l1⟩
    rw [H1.out]
    have k1 := l1
    go_wp2_with fail
    refine (specReadVar_any _ _ _ hs).mono ?_
    rintro e' w2 ⟨rfl, l2⟩
    rw [H2.out]
    have k2 := k1.trans (l2.mono k1.size)
    go_wp2_with fail
    refine (specReadShort_any _ _ _ hs).mono ?_
    rintro e' w3 ⟨rfl, l3⟩
    rw [H3.out, zeroS]
    have k3 := k2.trans (l3.mono k2.size)
    have y4 := Box.new w3 #[.int .i64 (g : Int), .int .i64 (q : Int), .string ⟨#[]⟩] 69
    have k4 : Below W.heap.size W (w3.alloc (.cells #[.int .i64 (g : Int), .int .i64 (q : Int), .string ⟨#[]⟩] 69)) := k3.alloc k3.size _
    go_upto_region 5 with fail
    generalize w3.alloc (.cells #[.int .i64 (g : Int), .int .i64 (q : Int), .string ⟨#[]⟩] 69) = w4 at y4 k4 ⊢
    obtain ⟨x4, b4'⟩ := HC.out _ k4
    obtain ⟨c0, c1, c2, f0, f1, f2⟩ := x4.three
    go_wp2
    have y := x4.set3 (.int .i64 0) (.int .i64 0) (.string ⟨#[]⟩)
    obtain ⟨q0, q1, q2, _⟩ := y.three
    unfold set3 at q0 q1 q2
    refine bodyPost_ret (v := .tuple #[zeroFr.v, .int .i64 0, .bool false]) (by simp [results, Tryz.results108, go_sem, q0, q1, q2, Fr.v, zeroFr]) rfl ?_
    exact ⟨by rw [HZ.out], below_set3 b4' (Nat.le_refl _) _ _ _⟩
  · have H1 := Lib.hid h1
    have H2 := Lib.hid h3
    have H3 := Lib.hid h4
    obtain ⟨k, rfl, hk, hru⟩ := ruA_some h2
    obtain ⟨r1, r2, r3, r4, r5, r6⟩ := ru_raw hru hk
    have hrf := Lib.hid (rfA_nat hk)
    have HU := Lib.hid hru
    obtain ⟨f, hf⟩ : ∃ f : Fr, (⟨g, q, t⟩ : Fr) = f := ⟨_, rfl⟩
    have HF := Lib.hid hf
    have hv : Hid (f.v = .agg #[.int .i64 (g : Int), .int .i64 (q : Int), .string t]) := by rw [← hf]; rfl
    have hk0 : (0 : Int) ≤ (k : Int) := by omega
    have hke : (k : Int) ≤ (e : Int) := by omega
    rw [hf] at r6
    clear h1 h2 h3 h4 r1 r4 r5 hru hf
    go_enter Tryz.func108, Tryz.ntmps108
    go_wp2_with fail
    generalize w.alloc (.cells #[.int .i64 0, .int .i64 0, .string ⟨#[]⟩] 69) = W at *
    refine (specReadVar_any _ _ _ hs).mono ?_
    rintro e' w1 ⟨rfl, l1⟩
    rw [H1.out]
    have k1 := l1
    go_wp2_with fail
    refine (specReadVar_any _ _ _ hs).mono ?_
    rintro e' w2 ⟨rfl, l2⟩
    rw [H2.out]
    have k2 := k1.trans (l2.mono k1.size)
    go_wp2_with fail
    refine (specReadShort_any _ _ _ hs).mono ?_
    rintro e' w3 ⟨rfl, l3⟩
    rw [H3.out]
    have k3 := k2.trans (l3.mono k2.size)
    have y4 := Box.new w3 #[.int .i64 (g : Int), .int .i64 (q : Int), .string t] 69
    have k4 : Below W.heap.size W (w3.alloc (.cells #[.int .i64 (g : Int), .int .i64 (q : Int), .string t] 69)) := k3.alloc k3.size _
    go_upto_region 5 with fail
    generalize w3.alloc (.cells #[.int .i64 (g : Int), .int .i64 (q : Int), .string t] 69) = w4 at y4 k4 ⊢
    by_cases hlen : e + 4 ≤ s.size
    · obtain ⟨c0, c1, c2, _, _, _⟩ := y4.three
      have hl1 : (e : Int) ≤ (s.size : Int) - 4 := by omega
      go_wp2_with fail
      rw [← hv.out]
      refine (specFrameText_any f _ (by omega)).mono ?_
      rintro e' w5 ⟨rfl, l5⟩
      have j5 := k4.trans (l5.mono k4.size)
      have y5 := y4.later l5
      clear c0 c1 c2
      by_cases hok : f.ok
      · rw [ftT_yes hok]
        have hle := Fr.tx_le hok
        have hfm := specReadFrame_form s f.tx k (e + 4)
        by_cases hp : f.tx = s.extract k (e + 4)
        · have HZ := Lib.hid (rfT_some (hrf.out.trans (rf_yes HU.out (by rw [HF.out]; exact ⟨hok, hlen, hp⟩))))
          obtain ⟨g0, g1, g2, _, _, _⟩ := y5.three
          obtain ⟨x5, b5⟩ := HC.out _ j5
          obtain ⟨c0, c1, c2, f0, f1, f2⟩ := x5.three
          rw [decide_eq_true hp] at hfm
          clear hp hok
          go_wp2
          have y := x5.set3 (.int .i64 (g : Int)) (.int .i64 (q : Int)) (.string t)
          obtain ⟨q0, q1, q2, _⟩ := y.three
          unfold set3 at q0 q1 q2
          refine bodyPost_ret (v := .tuple #[Fr.v ⟨g, q, t⟩, .int .i64 ((e + 4 : Nat) : Int), .bool true]) (by simp [results, Tryz.results108, go_sem, q0, q1, q2, Fr.v]) rfl ?_
          exact ⟨by rw [HZ.out], below_set3 b5 (Nat.le_refl _) _ _ _⟩
        · have HZ := Lib.hid (rfT_none (hrf.out.trans (rf_no HU.out (by rw [HF.out]; exact fun h => hp h.2.2))))
          rw [decide_eq_false hp] at hfm
          clear hp hok
          obtain ⟨x5, b5'⟩ := HC.out _ j5
          obtain ⟨c0, c1, c2, f0, f1, f2⟩ := x5.three
          go_wp2
          have y := x5.set3 (.int .i64 0) (.int .i64 0) (.string ⟨#[]⟩)
          obtain ⟨q0, q1, q2, _⟩ := y.three
          unfold set3 at q0 q1 q2
          refine bodyPost_ret (v := .tuple #[zeroFr.v, .int .i64 0, .bool false]) (by simp [results, Tryz.results108, go_sem, q0, q1, q2, Fr.v, zeroFr]) rfl ?_
          exact ⟨by rw [HZ.out], below_set3 b5' (Nat.le_refl _) _ _ _⟩
      · rw [ftT_no hok]
        have HZ := Lib.hid (rfT_none (hrf.out.trans (rf_no HU.out (by rw [HF.out]; exact fun h => hok h.1))))
        clear hok
        obtain ⟨x5, b5'⟩ := HC.out _ j5
        obtain ⟨c0, c1, c2, f0, f1, f2⟩ := x5.three
        go_wp2
        have y := x5.set3 (.int .i64 0) (.int .i64 0) (.string ⟨#[]⟩)
        obtain ⟨q0, q1, q2, _⟩ := y.three
        unfold set3 at q0 q1 q2
        refine bodyPost_ret (v := .tuple #[zeroFr.v, .int .i64 0, .bool false]) (by simp [results, Tryz.results108, go_sem, q0, q1, q2, Fr.v, zeroFr]) rfl ?_
        exact ⟨by rw [HZ.out], below_set3 b5' (Nat.le_refl _) _ _ _⟩
    · have HZ := Lib.hid (rfT_none (hrf.out.trans (rf_no HU.out (fun h => hlen h.2.1))))
      have hl1 : (s.size : Int) - 4 < (e : Int) := by omega
      clear hlen
      obtain ⟨x4, b4'⟩ := HC.out _ k4
      obtain ⟨c0, c1, c2, f0, f1, f2⟩ := x4.three
      go_wp2
      have y := x4.set3 (.int .i64 0) (.int .i64 0) (.string ⟨#[]⟩)
      obtain ⟨q0, q1, q2, _⟩ := y.three
      unfold set3 at q0 q1 q2
      refine bodyPost_ret (v := .tuple #[zeroFr.v, .int .i64 0, .bool false]) (by simp [results, Tryz.results108, go_sem, q0, q1, q2, Fr.v, zeroFr]) rfl ?_
      exact ⟨by rw [HZ.out], below_set3 b4' (Nat.le_refl _) _ _ _⟩

end Go.Proofs.YtieenkloiicnkaaGreatDoor

/- Appends of one list of the call's own to another, at an operation, in a list of operations and in a region that draws its order. -/
namespace Go.Proofs.YtieenkloiicnkaaGreatDoor
open Go.RowKit

variable {α : Type} {E : Enc α}

theorem RBuf.shift {B : Nat} {w w' : World} {v : Value} {l : List α} {r : Option Nat} (h : RBuf E B w w v l) (hg : w.grownBy w' r) (hne : v.ownBlock = none ∨ v.ownBlock ≠ r) : RBuf E B w' w' v l :=
  ⟨h.own.kept hg hne, Below.refl _ _, Nat.le_trans h.le hg.size⟩

theorem RBuf.lower {B B0 : Nat} {w : World} {v : Value} {l : List α} (h : RBuf E B w w v l) (hB : B0 ≤ B) : RBuf E B0 w w v l := h.down (Below.refl _ _) hB

/-- What is appended: a list of whoever's own. -/
theorem run_append_rows {w : World} (ty : TypeId) (B : Nat) (v : Value) (l : List α) (hb : RBuf E B w w v l) (Bx : Nat) (vx : Value) (m : List α) (hx : RBuf E Bx w w vx m)
    (hlen : (l.length + m.length) * (E.bytes + 1) ≤ 140737488355328) :
    ∃ v' w', (Builtin.append_ #[E.sty, E.sty] ty #[v, vx]).run Tryz.prog w = .ok v' w' ∧ RBuf E B w' w' v' (l ++ m) ∧ w.grownBy w' v.ownBlock ∧ (v'.ownBlock = v.ownBlock ∨ v'.ownBlock = some w.heap.size) := by
  obtain ⟨i0, hi, hz0, hz1, hz2⟩ := info_parts E.info
  have e0 : (l.length + m.length) * (E.bytes + 1) = (l.length + m.length) * E.bytes + (l.length + m.length) := Nat.mul_succ _ _
  rcases hx.own.2 with ⟨rfl, h0⟩ | ⟨g, cap, cur, rfl, hg, hh, hnc, hcp, hcs, htake⟩
  · obtain rfl := List.length_eq_zero_iff.1 h0
    refine ⟨v, w, run_append_owned_none (P := Tryz.prog) w B E.sty ty E.ty i0 E.sz E.und hi v l.length (E.row l) hb.own, by simpa using hb, World.grownBy.refl _ _, .inl rfl⟩
  · obtain ⟨v', w', h1, h2, h3, _, h5⟩ := run_append_own_at (P := Tryz.prog) w B E.sty ty E.ty i0 E.zero E.sz E.bytes E.und hi hz0 hz1 hz2 E.zc E.pos v l.length (E.row l) hb.own ⟨g, 0, none⟩ m.length cap (E.row m) (E.row_length m)
      (fun j u hu => by
        have hjl : j < m.length * E.sz := by have := (List.getElem?_eq_some_iff.1 hu).1; rwa [E.row_length] at this
        rw [Addr.add_lit, Nat.zero_add, hx.own.cellAt j hjl]; exact hu) (E.row_one' m) (by unfold maxLen; omega) (by omega) hb.le
    refine ⟨v', w', h1, ⟨?_, Below.refl _ _, Nat.le_trans hb.le h3.size⟩, h3, h5⟩
    rw [List.length_append, E.row_append]
    exact h2

theorem wp_append_rows {w : World} {o : Oper} {a : Act} {K : Act → World → Prop} {Q : Exit → Act → World → Prop} (s x : Operand) (E : Enc α)
    (ho : o.op = .call { callee := .builtin .append, args := #[s, x], argTypes := #[E.sty, E.sty] })
    (B : Nat) (v : Value) (l : List α) (hs : a.eval s = v) (hb : RBuf E B w w v l) (Bx : Nat) (vx : Value) (m : List α) (hxv : a.eval x = vx) (hx : RBuf E Bx w w vx m)
    (hlen : (l.length + m.length) * (E.bytes + 1) ≤ 140737488355328)
    (h : ∀ v' w', RBuf E B w' w' v' (l ++ m) → w.grownBy w' v.ownBlock → (v'.ownBlock = v.ownBlock ∨ v'.ownBlock = some w.heap.size) → K (a.put o.dst v') w') : o.wp Tryz.prog a w K Q := by
  obtain ⟨v', w', hr, h2, h3, h4⟩ := run_append_rows o.type B v l hb Bx vx m hx hlen
  unfold Oper.wp execOp
  simp only [ho, resolve, invoke, builtin, Sem.run_bind, Sem.run_pure, Result.andThen_ok, List.map_toArray, List.map_cons, List.map_nil, hs, hxv, hr]
  exact h v' w' h2 h3 h4

theorem wpList_append_rows {w : World} {ops : Array Oper} {rest : List Oper} {o : Oper} {a : Act} {Q : Exit → Act → World → Prop} (hgd : o.guard = none) (s x : Operand) (E : Enc α)
    (ho : o.op = .call { callee := .builtin .append, args := #[s, x], argTypes := #[E.sty, E.sty] })
    (B : Nat) (v : Value) (l : List α) (hs : a.eval s = v) (hb : RBuf E B w w v l) (Bx : Nat) (vx : Value) (m : List α) (hxv : a.eval x = vx) (hx : RBuf E Bx w w vx m)
    (hlen : (l.length + m.length) * (E.bytes + 1) ≤ 140737488355328)
    (h : ∀ v' w', RBuf E B w' w' v' (l ++ m) → w.grownBy w' v.ownBlock → (v'.ownBlock = v.ownBlock ∨ v'.ownBlock = some w.heap.size) → wpList Tryz.prog ops Q rest (a.put o.dst v') w') : wpList Tryz.prog ops Q (o :: rest) a w :=
  wpList_plain hgd fun _ hK => wp_append_rows s x E ho B v l hs hb Bx vx m hxv hx hlen fun v' w' h2 h3 h4 => hK _ _ (h v' w' h2 h3 h4)

theorem step_append_rows {w : World} {ops : Array Oper} {o : Oper} {a : Act} {K : Act → World → Prop} {Q : Exit → Act → World → Prop} {X : Prop} (hgd : o.guard = none) (s x : Operand) (E : Enc α)
    (ho : o.op = .call { callee := .builtin .append, args := #[s, x], argTypes := #[E.sty, E.sty] })
    (B : Nat) (v : Value) (l : List α) (hs : a.eval s = v) (hb : RBuf E B w w v l) (Bx : Nat) (vx : Value) (m : List α) (hxv : a.eval x = vx) (hx : RBuf E Bx w w vx m)
    (hlen : (l.length + m.length) * (E.bytes + 1) ≤ 140737488355328)
    (h : ∀ v' w', RBuf E B w' w' v' (l ++ m) → w.grownBy w' v.ownBlock → (v'.ownBlock = v.ownBlock ∨ v'.ownBlock = some w.heap.size) → (∀ k, v.ownBlock = some k → B ≤ k ∧ k < w.heap.size) → K (a.put o.dst v') w') :
    if Region.wanted o (yielded ops a.tmps) = true then Oper.wp Tryz.prog o a w K Q else X := by
  have hw : Region.wanted o (yielded ops a.tmps) = true := by simp [Region.wanted, hgd]
  rw [if_pos hw]
  exact wp_append_rows s x E ho B v l hs hb Bx vx m hxv hx hlen fun v' w' h2 h3 h4 => h v' w' h2 h3 h4 (fun k hk => hb.own.lt k hk)

/-- One element in a new row, as an append asks for it. -/
theorem RBuf.lit1 (E : Enc α) (w : World) (x : α) : RBuf E w.heap.size (w.alloc (.cells (E.f x).toArray E.ty)) (w.alloc (.cells (E.f x).toArray E.ty)) (.slice (some ⟨w.heap.size, 0, none⟩) 1 1) [x] := by
  refine ⟨?_, Below.refl _ _, by simp⟩
  have := World.ownsRow_lit (base := w.heap.size) (e := E.ty) (size := E.sz) w (E.f x).toArray 1 (Nat.le_refl _) (by decide) (by simp [E.len])
  simpa [E.row_one] using this

end Go.Proofs.YtieenkloiicnkaaGreatDoor

/- How frames lie in memory. -/
namespace Go.Proofs.YtieenkloiicnkaaGreatDoor
open Go.RowKit

def frE : Enc Fr where
  ty := 69
  sty := 65
  sz := 3
  bytes := 32
  zero := .agg #[.int .i64 0, .int .i64 0, .string ⟨#[]⟩]
  f := fun x => [.int .i64 x.gen, .int .i64 x.seq, .string x.body]
  len := fun _ => rfl
  pos := by decide
  one := fun _ u hu => by simp at hu; rcases hu with rfl | rfl | rfl <;> rfl
  und := Tryz.underlying65
  info := by kernel_rfl
  zc := rfl
  z0 := ⟨0, 0, ⟨#[]⟩⟩
  zf := rfl

/-- The cells of one element in a new row, as an append asks for them. -/
theorem row_new {α : Type} (E : Enc α) (w : World) (x : α) : ∀ j u, (E.row [x])[j]? = some u → (w.alloc (.cells (E.f x).toArray E.ty)).cell? ((⟨w.heap.size, 0, none⟩ : Addr).add j) = some u := by
  intro j u hj
  rw [E.row_one] at hj
  rw [Addr.add_lit, Nat.zero_add]
  exact (Box.new w (E.f x).toArray E.ty).cell j u (by simpa using hj)

end Go.Proofs.YtieenkloiicnkaaGreatDoor

/- Frames: what the model's ScanFrames hands back. -/
namespace Go.Proofs.YtieenkloiicnkaaGreatDoor
open Go.RowKit

/-- The frames of a Gen from the beginning on. -/
def scan (s : ByteArray) (g : Int) : List (Fr × Nat) := sq fourOf s g 0
def scanL (s : ByteArray) (g : Int) : List Fr := (scan s g).map (·.1)
def scanE (s : ByteArray) (g : Int) : Nat := behind 0 (scan s g)
theorem scanL_le (s : ByteArray) (g : Int) : (scanL s g).length ≤ s.size := by
  have := (sq_all (four := fourOf) (s := s) (g := g) (k := 0) (Nat.zero_le _)).2.1
  simpa [scanL, scan] using this

/-- What ScanFrames hands back. -/
def ScanR (s : ByteArray) (g : Int) (w : World) (e : Ending) (w' : World) : Prop :=
  ∃ v, e = .returned (.tuple #[v, .int .i64 (scanE s g : Int)]) ∧ RBuf frE w.heap.size w w' v (scanL s g)

set_option maxRecDepth 100000 in
set_option maxHeartbeats 2000000 in
theorem specScanFrames_any (s : ByteArray) (g : Int) (w : World) (hs : s.size ≤ 1099511627776) :
    Calls Tryz.prog 106 #[.string s, .int .i64 g] w fun e w' => ScanR s g w e w' := by
  have hst := RBuf.fresh frE w
  go_enter Tryz.func106, Tryz.ntmps106
  go_wp2
  go_loopw [6, 7] (fun ov av wr => ∃ (pre : List (Fr × Nat)) (k : Nat), k ≤ s.size ∧ behind 0 pre = k ∧ pre ++ sq fourOf s g k = scan s g ∧ av = .int .i64 (k : Int) ∧ RBuf frE w.heap.size w wr ov (pre.map (·.1))) (fun _ av _ => s.size + 1 - (intOf av).toNat)
  case atStart => exact ⟨[], 0, by omega, rfl, rfl, rfl, hst⟩
  case round =>
    obtain ⟨pre, k, hk, hbe, hpre, rfl, hb⟩ := hrel
    have HBE := Lib.hid hbe
    have HPRE := Lib.hid hpre
    have hlen : (pre.map (·.1)).length ≤ s.size := by
      have h1 := congrArg List.length hpre
      have h2 := (sq_all (four := fourOf) (s := s) (g := g) (k := 0) (Nat.zero_le _)).2.1
      rw [List.length_append] at h1
      unfold scan at h1
      rw [List.length_map]
      omega
    clear hbe hpre
    go_wp2_with fail
    refine (specReadFrame_any s k _ (by omega)).mono ?_
    rintro e w1 ⟨rfl, k1⟩
    have hb1 := hb.later k1
    cases hr : rf fourOf s k with
    | none =>
      rw [rfT_none ((rfA_nat hk).trans hr)]
      have HQ := Lib.hid (sq_none (g := g) hr)
      have hb2 := Lib.hid (hb1.alloc (.cells #[.int .i64 0, .int .i64 0, .string ⟨#[]⟩] 69))
      clear hr
      unfold zeroFr Fr.v
      go_wp2
      go_ret2
      have e0 := HPRE.out
      rw [HQ.out, List.append_nil] at e0
      exact ⟨_, by rw [scanE, ← e0, HBE.out]; rfl, by rw [scanL, ← e0]; exact hb2.out⟩
    | some x =>
      obtain ⟨f, n⟩ := x
      rw [rfT_some ((rfA_nat hk).trans hr)]
      obtain ⟨hok, hkn, hns, _⟩ := rf_some hr hk
      have hb2 := Lib.hid (hb1.alloc (.cells #[.int .i64 f.gen, .int .i64 f.seq, .string f.body] 69))
      unfold Fr.v
      by_cases hg : f.gen = g
      · have HQ := Lib.hid (sq_yes hk hr hg)
        have HG := Lib.hid hg
        have hgq : (f.gen == g) = true := by simp [hg]
        have hgn : (f.gen != g) = false := by simp [hg]
        clear hr hg hok
        have y2 := Box.new w1 #[.int .i64 f.gen, .int .i64 f.seq, .string f.body] 69
        clear hb hb1 k1
        go_upto_region 4 with fail
        generalize w1.alloc (.cells #[.int .i64 f.gen, .int .i64 f.seq, .string f.body] 69) = w2 at hb2 y2 ⊢
        obtain ⟨c0, c1, c2, _, _, _⟩ := y2.three
        have hb3 := Lib.hid (hb2.out.alloc (.cells #[.int .i64 f.gen, .int .i64 f.seq, .string f.body] 69))
        have hnew : Hid (∀ j u, (frE.row [f])[j]? = some u → (w2.alloc (.cells #[.int .i64 f.gen, .int .i64 f.seq, .string f.body] 69)).cell? ((⟨w2.heap.size, 0, none⟩ : Addr).add j) = some u) := row_new frE w2 f
        have hl0 : ((pre.map (·.1)).length + [f].length) * (frE.bytes + 1) ≤ 140737488355328 := by simp only [frE, List.length_cons, List.length_nil]; omega
        have HL0 := Lib.hid hl0
        go_wp2_with (at_builtin; refine wpList_append_row rfl _ _ frE rfl w.heap.size _ (pre.map (·.1)) rfl hb3.out ⟨w2.heap.size, 0, none⟩ [f] 1 rfl ?c1 ?c2 ?_)
        case c1 => exact hnew.out
        case c2 => exact HL0.out
        intro v4 w4 hb4 _ _
        clear hb2 hb3 hnew HL0 c0 c1 c2
        go_wp2
        go_roundw
        case rel => exact ⟨pre ++ [(f, n)], n, by omega, behind_snoc _ _ _, by rw [← HPRE.out, HQ.out]; simp, rfl, by rw [List.map_append]; exact hb4⟩
        case measure => simp [intOf]; omega
      · have HQ := Lib.hid (sq_no hr hg)
        have hgn : (f.gen != g) = true := by simp [hg]
        clear hr hok
        go_wp2
        go_ret2
        have e0 := HPRE.out
        rw [HQ.out, List.append_nil] at e0
        exact ⟨_, by rw [scanE, ← e0, HBE.out]; rfl, by rw [scanL, ← e0]; exact hb2.out⟩

end Go.Proofs.YtieenkloiicnkaaGreatDoor

/- A range over a function that keeps a variable of its own in memory, at the wide fence: what the caller holds to, round by round, while the variable's block is turned by the function alone. -/
namespace Go.Proofs.YtieenkloiicnkaaGreatDoor
open Go.RowKit

/-- What a round leaves: it has gone on to its end. -/
def RoundOk (D : Nat) (B : Nat) (I : World → Prop) (W : World) : Exit → Act → World → Prop
  | .normal, _, W' => I W' ∧ W.heap.size ≤ W'.heap.size ∧ W'.heap[D]? = W.heap[D]? ∧ W'.heap[D + 1]? = W.heap[D + 1]? ∧ W'.heap[B]? = W.heap[B]?
  | _, _, _ => False

/-- How such a function hands on its elements. -/
def SeqVar {α : Type} (n : Nat) (P : Program) (gf : Nat) (lb : Array Value) (encs : α → Array Value) (Kn : World → Prop) (Ok : List α → α → Prop) (S : List α → Prop) (m : Nat) : Prop :=
  ∀ (l : Nat) (J : Nat → List α → World → Prop) (W : World), W.heap.size = m → (∀ B pre X, J B pre X → Kn X ∧ m ≤ X.heap.size) →
    (∀ B pre X Y row, m ≤ B → J B pre X → X.grownBy Y row → (∀ r, row = some r → r = B) → J B pre Y) →
    (∀ B pre x X, m ≤ B → B < X.heap.size → J B pre X → Ok pre x → YieldAt Fence.wide (n - 1) P l (encs x) X fun e X' => e = .returned (.bool true) ∧ J B (pre ++ [x]) X' ∧ X.heap.size ≤ X'.heap.size ∧ X'.heap[B]? = X.heap[B]?) →
    (∀ B, m ≤ B → J B [] W) →
    CallsIn Fence.wide n P gf (#[.func (.yield l) #[] #[]] ++ lb) W fun e W' => (∃ v, e = .returned v) ∧ ∃ B xs, m ≤ B ∧ S xs ∧ J B xs W'

theorem wpIn_range_var {α : Type} {n : Nat} {P : Program} {g : Operand} {ps : Array Tmp} {assign body : Go.Code} {Q : Exit → Act → World → Prop} {a : Act} {w : World} (h1 : 1 ≤ n)
    {gf : Nat} {lb : Array Value} (hg : a.eval g = .func (.func gf) #[] lb) (eg : ∀ args w, (callFunc gf args).run P w = .ok (.enter gf args) w)
    {encs : α → Array Value} (hps : ∀ x, (encs x).size = ps.size) {Kn : World → Prop} {Ok : List α → α → Prop} {S : List α → Prop} (hseq : SeqVar (n - 1) P gf lb encs Kn Ok S (w.heap.size + 2))
    (I : Nat → List α → World → Prop) (hK : ∀ B pre X, I B pre X → Kn X)
    (hI : ∀ B pre X Y row, w.heap.size + 2 ≤ B → I B pre X → X.grownBy Y row → (∀ r, row = some r → r = B ∨ r = w.heap.size ∨ r = w.heap.size + 1) → I B pre Y)
    (h0 : ∀ B, w.heap.size + 2 ≤ B → I B [] w) (Ax : α → Act → World → Prop)
    (hassign : ∀ (l : Nat) (x : α) (W : World) (K : Act → World → Prop), w.heap.size + 2 ≤ W.heap.size → (∀ a' W', W.grownBy W' none → Ax x a' W' → K a' W') →
      assign.wpIn (Fence.wide.inRound l) (n - 1 - 1) P (Exit.then K (fun _ _ _ => False)) { tmps := (ps.zip (encs x)).foldl (fun t (p, v) => t.setIfInBounds p v) a.tmps, defers := [] } W)
    (hbody : ∀ (l B : Nat) (pre : List α) (x : α) (a' : Act) (W : World), w.heap.size + 2 ≤ B → B < W.heap.size → I B pre W → Ok pre x → (∀ W0, W0.grownBy W (some (w.heap.size + 1)) → Ax x a' W0 → body.wpIn (Fence.wide.inRound l) (n - 1 - 1) P (RoundOk w.heap.size B (fun W' => I B (pre ++ [x]) W') W) a' W))
    (hdone : ∀ (D B : Nat) (xs : List α) (W : World), D = w.heap.size → w.heap.size + 2 ≤ B → S xs → I B xs W → W.heap[D]? = some (.deferred (some [])) → Q .normal { a with defers := { target := .collected D, args := #[] } :: a.defers } W) :
    (Code.rangeFunc g ps assign body).wpIn Fence.wide n P Q a w := by
  refine wpIn_rangeFunc ?_
  intro fn hfn
  obtain ⟨rec, hrec⟩ : ∃ rec : LoopState → Loop, rec = fun st => { state := st, pending := none, fn, tmps := a.tmps, params := ps, assign, body, defers := w.heap.size } := ⟨_, rfl⟩
  obtain ⟨W1, hW1⟩ : ∃ W1, (w.alloc (.deferred (some []))).alloc (.loop (rec .ready)) = W1 := ⟨_, rfl⟩
  have hs1 : W1.heap.size = w.heap.size + 2 := by rw [← hW1]; simp
  have hD : W1.heap[w.heap.size]? = some (.deferred (some [])) := by
    rw [← hW1]; exact (Below.heap_alloc _ _ _ (by simp)).trans (World.alloc_heap_new w _)
  have hL : W1.heap[w.heap.size + 1]? = some (.loop (rec .ready)) := by
    rw [← hW1]; have := World.alloc_heap_new (w.alloc (.deferred (some []))) (.loop (rec .ready)); rwa [World.size_alloc] at this
  have hg1 : w.grownBy W1 none := by
    rw [← hW1]; exact (World.grownBy_alloc w _ none).trans (World.grownBy_alloc _ _ none)
  refine ⟨w.heap.size + 1, [{ target := .collected w.heap.size, args := #[] }], W1, { target := .fn (.func gf) lb, args := #[.func (.yield (w.heap.size + 1)) #[] #[]] }, W1, gf,
    #[.func (.yield (w.heap.size + 1)) #[] #[]] ++ lb, W1, ?_, ?_, fun _ _ => trivial, ?_, fun _ => h1, ?_⟩
  · rw [← hW1, hrec]; exact run_enterLoop_outer _ _ _ _ _
  · simp only [resolve, hg]; simp [go_sem]
  · simp [invoke, go_sem, eg]
  refine (hseq (w.heap.size + 1) (fun B pre X => I B pre X ∧ w.heap.size + 2 ≤ X.heap.size ∧ X.heap[w.heap.size + 1]? = some (.loop (rec .ready)) ∧ X.heap[w.heap.size]? = some (.deferred (some []))) W1 hs1 (fun B pre X h => ⟨hK B pre X h.1, h.2.1⟩) ?_ ?_ ?_).mono ?_
  · rintro B pre X Y row hB ⟨hi, hz, hl, hd⟩ hg' hr
    refine ⟨hI B pre X Y row hB hi hg' (fun r e => .inl (hr r e)), Nat.le_trans hz hg'.size, ?_, ?_⟩
    · exact (hg'.block _ (by omega) (fun e => by have := hr _ e.symm; omega)).trans hl
    · exact (hg'.block _ (by omega) (fun e => by have := hr _ e.symm; omega)).trans hd
  · rintro B pre x X hB hBX ⟨hi, hz, hl, hd⟩ hok
    have hy := run_yield (P := P) (args := encs x) hl (by rw [hrec]; exact hps x)
    rw [hrec] at hy
    refine ⟨fn, _, assign, body, hy, roundIn_of_wpIn hfn (hassign _ x X _ hz ?_)⟩
    intro a' Xa hga hax
    have hza : w.heap.size + 2 ≤ Xa.heap.size := Nat.le_trans hz hga.size
    have hla : Xa.heap[w.heap.size + 1]? = some (.loop (rec .ready)) := (hga.block _ (by omega) (by simp)).trans hl
    have hda : Xa.heap[w.heap.size]? = some (.deferred (some [])) := (hga.block _ (by omega) (by simp)).trans hd
    have hia := hI B pre X Xa none hB hi hga (fun r e => by cases e)
    refine ⟨_, run_beginRound hla (by rw [hrec]), ?_⟩
    obtain ⟨Xb, hXb⟩ : ∃ Xb, Xa.putObj (w.heap.size + 1) (.loop { rec .ready with state := .busy }) = Xb := ⟨_, rfl⟩
    have hgb : Xa.grownBy Xb (some (w.heap.size + 1)) := by rw [← hXb]; exact grownBy_putObj' _ _ _
    have hlb : Xb.heap[w.heap.size + 1]? = some (.loop { rec .ready with state := .busy }) := by rw [← hXb]; exact World.putObj_heap_same (by omega)
    have hdb : Xb.heap[w.heap.size]? = some (.deferred (some [])) := (hgb.block _ (by omega) (by simp)).trans hda
    have hib := hI B pre Xa Xb _ hB hia hgb (fun r e => .inr (.inr (by cases e; rfl)))
    have hzb : w.heap.size + 2 ≤ Xb.heap.size := Nat.le_trans hza hgb.size
    rw [hXb]
    refine wpIn_mono (hbody _ B pre x a' Xb hB (Nat.lt_of_lt_of_le hBX (Nat.le_trans hga.size hgb.size)) hib hok Xa hgb hax) ?_
    rintro e a3 X3 hp
    cases e with
    | normal =>
      obtain ⟨hi3, hz3, hd3, hl3, hb3⟩ := hp
      have hl3' := hl3.trans hlb
      have hend := run_endRound (P := P) none hl3'
      have hsz3 : w.heap.size + 2 ≤ X3.heap.size := Nat.le_trans hzb hz3
      have hge := grownBy_putObj' X3 (w.heap.size + 1) (.loop (rec .ready))
      refine ⟨_, _, hend, rfl, ⟨?_, ?_, ?_, ?_⟩, ?_, ?_⟩
      · rw [hrec] at hge ⊢
        exact hI B (pre ++ [x]) X3 _ _ hB hi3 hge (fun r e => .inr (.inr (by cases e; rfl)))
      · simp [World.putObj]; omega
      · rw [hrec]; exact World.putObj_heap_same (by omega)
      · exact (World.putObj_heap_other (by omega)).trans (hd3.trans hdb)
      · have s1 := hga.size
        have s2 := hgb.size
        simp [World.putObj]; omega
      · have s1 := hga.size
        have s2 := hgb.size
        rw [World.putObj_heap_other (by omega), hb3, hgb.block B (by omega) (fun e => by have := Option.some.inj e; omega), hga.block B hBX (by simp)]
    | ret => exact hp.elim
    | exit id => exact hp.elim
    | goto t => exact hp.elim
    | panic ch => exact hp.elim
    | outgrown => exact hp.elim
  · intro B hB
    exact ⟨hI B [] w W1 none hB (h0 B hB) hg1 (fun r e => by cases e), by omega, hL, hD⟩
  · rintro e W2 ⟨⟨v, rfl⟩, B, xs, hB, hS, hi, hz, hl, hd⟩
    refine ⟨none, _, by have := run_endLoop (P := P) hl (by rw [hrec]; simp); rw [hrec] at this; exact this, ?_⟩
    refine hdone _ B xs _ rfl hB hS (hI B xs W2 _ _ hB hi (grownBy_putObj' _ _ _) (fun r e => .inr (.inr (by cases e; rfl)))) ?_
    exact (World.putObj_heap_other (by omega)).trans hd

end Go.Proofs.YtieenkloiicnkaaGreatDoor

/- Frames: what the program's ScanFrames hands back: a range over a reader that is handed a yield. -/
namespace Go.Proofs.YtieenkloiicnkaaGreatDoor
open Go.RowKit Go.Shelf

attribute [local go_sem] Oper.semAt_some

/-- An append of elements that lie at ad, inside a fence. -/
theorem wpListIn_append_row {α : Type} {F : Fence} {nF : Nat} {w0 w : World} {ops : Array Oper} {rest : List Oper} {o : Oper} {a : Act} {Q : Exit → Act → World → Prop} (hgd : o.guard = none) (s x : Operand)
    (E : Enc α) (ho : o.op = .call { callee := .builtin .append, args := #[s, x], argTypes := #[E.sty, E.sty] })
    (B : Nat) (v : Value) (l : List α) (hs : a.eval s = v) (hb : RBuf E B w0 w v l)
    (ad : Addr) (news : List α) (c : Nat) (hx : a.eval x = .slice (some ad) news.length c)
    (hnews : ∀ j u, (E.row news)[j]? = some u → w.cell? (ad.add j) = some u)
    (hlen : (l.length + news.length) * (E.bytes + 1) ≤ 140737488355328)
    (h : ∀ v' w', RBuf E B w0 w' v' (l ++ news) → w.grownBy w' v.ownBlock → (v'.ownBlock = v.ownBlock ∨ v'.ownBlock = some w.heap.size) → wpListIn F nF Tryz.prog ops Q rest (a.put o.dst v') w') : wpListIn F nF Tryz.prog ops Q (o :: rest) a w := by
  obtain ⟨i0, hi, hz0, hz1, hz2⟩ := info_parts E.info
  have e0 : (l.length + news.length) * (E.bytes + 1) = (l.length + news.length) * E.bytes + (l.length + news.length) := Nat.mul_succ _ _
  refine wpListIn_append_own_at _ hgd s x E.sty ho B E.ty i0 E.zero E.sz E.bytes E.und hi hz0 hz1 hz2 E.zc E.pos v l.length (E.row l) hs hb.own ad news.length c (E.row news) hx (E.row_length news) hnews (E.row_one' news) (by unfold maxLen; omega) (by omega) hb.le ?_
  intro v' w' hown hgrow _ hat
  refine h v' w' ⟨?_, hb.bel.grown hgrow hb.le (fun k hk => (hb.own.lt k hk).1), Nat.le_trans hb.le hgrow.size⟩ hgrow hat
  have e1 : (l ++ news).length = l.length + news.length := by simp
  rw [e1, E.row_append]
  exact hown

/-- What comes in a round: a frame, and the place behind it. -/
def frEncs (x : Fr × Nat) : Array Value := #[x.1.v, .int .i64 (x.2 : Int)]

theorem rfT_form' (s : ByteArray) (k : Nat) (hk : k ≤ s.size) : (∃ f e, rf fourOf s k = some (f, e) ∧ rfT s k = .tuple #[f.v, .int .i64 (e : Int), .bool true]) ∨ (rf fourOf s k = none ∧ rfT s k = .tuple #[zeroFr.v, .int .i64 ((0 : Nat) : Int), .bool false]) := by
  cases h : rf fourOf s k with
  | none => exact .inr ⟨rfl, rfT_none ((rfA_nat hk).trans h)⟩
  | some x => obtain ⟨f, e⟩ := x; exact .inl ⟨f, e, rfl, rfT_some ((rfA_nat hk).trans h)⟩

/-- The frame at k, as the reader holds it: it, the place behind it, and whether it is there. -/
def rdAt (s : ByteArray) (k : Nat) : Fr × Nat × Bool :=
  match rf fourOf s k with
  | some (f, e) => (f, e, true)
  | none => (zeroFr, 0, false)
theorem rdAt_T (s : ByteArray) (k : Nat) (hk : k ≤ s.size) : rfT s k = .tuple #[(rdAt s k).1.v, .int .i64 ((rdAt s k).2.1 : Int), .bool (rdAt s k).2.2] := by
  unfold rdAt
  rcases rfT_form' s k hk with ⟨f, e, h, h2⟩ | ⟨h, h2⟩
  · rw [h2, h]
  · rw [h2, h]

theorem grownBy_of_bel {w w' : World} (hb : Below w.heap.size w w') : w.grownBy w' none := ⟨hb.os, hb.tape, hb.output, hb.size, fun k hk _ => hb.block k hk⟩

theorem grownBy_of_bel' {w w' : World} (hb : Below w.heap.size w w') (r : Option Nat) : w.grownBy w' r := ⟨hb.os, hb.tape, hb.output, hb.size, fun k hk _ => hb.block k hk⟩

set_option maxRecDepth 100000 in
set_option maxHeartbeats 4000000 in
theorem framesOf1_seq (n : Nat) (hn : 1 ≤ n) (s : ByteArray) (g : Int) (Bt Bg m : Nat) (hs : s.size ≤ 1099511627776) :
    SeqVar n Tryz.prog 150 #[.pointer (some ⟨Bt, 0, none⟩), .pointer (some ⟨Bg, 0, none⟩)] frEncs (fun X => X.cell? ⟨Bt, 0, none⟩ = some (.string s) ∧ X.cell? ⟨Bg, 0, none⟩ = some (.int .i64 g) ∧ SumTab X) (fun pre _ => pre.length ≤ s.size) (fun xs => xs = scan s g) m := by
  intro l J W hW hKn hJ hY h0
  have HKn := Lib.hid hKn
  have HJ := Lib.hid hJ
  have HY := Lib.hid hY
  obtain ⟨⟨ct, cg, htab⟩, _⟩ := hKn m [] W (h0 m (Nat.le_refl _))
  have H0 := Lib.hid h0
  clear hKn hJ hY h0
  refine callsIn_of_wp Tryz.func150 rfl trivial ?_ rfl
  simp only [Tryz.ntmps150, List.size_toArray, List.length_cons, List.length_nil, Nat.reduceAdd, Nat.reduceSub, Array.replicate_succ, Array.replicate_zero, List.push_toArray, List.append_toArray, List.nil_append, List.cons_append]
  have hT := Lib.hid (rdAt_T s 0 (Nat.zero_le _))
  gi_wp2_with (refine ⟨trivial, ?_⟩; gi_at_call 112; refine (callsIn_wide.2 (implReadFrame_any s (0 : Nat) _ (by omega) htab)).mono ?_; rintro e w1 ⟨rfl, k1⟩; rw [hT.out]; unfold Fr.v)
  have hk1 : m ≤ w1.heap.size := by have := k1.size; omega
  have y0 := Box.new w1 #[.int .i64 (rdAt s 0).1.gen, .int .i64 (rdAt s 0).1.seq, .string (rdAt s 0).1.body] 69
  have j0 : J w1.heap.size [] (w1.alloc (.cells #[.int .i64 (rdAt s 0).1.gen, .int .i64 (rdAt s 0).1.seq, .string (rdAt s 0).1.body] 69)) :=
    HJ.out w1.heap.size [] W _ none hk1 (H0.out _ hk1) ((grownBy_of_bel k1).trans (World.grownBy_alloc _ _ none)) (fun r e => by cases e)
  clear H0 ct cg htab k1 hT
  generalize hB : w1.heap.size = Bf at *
  generalize w1.alloc (.cells #[.int .i64 (rdAt s 0).1.gen, .int .i64 (rdAt s 0).1.seq, .string (rdAt s 0).1.body] 69) = W2 at *
  gi_loopw [5, 6] (fun bv tv wr => ∃ (pre : List (Fr × Nat)) (k : Nat), k ≤ s.size ∧ behind 0 pre = k ∧ pre ++ sq fourOf s g k = scan s g ∧ bv = .int .i64 ((rdAt s k).2.1 : Int) ∧ tv = .bool (rdAt s k).2.2 ∧ Box wr Bf #[.int .i64 (rdAt s k).1.gen, .int .i64 (rdAt s k).1.seq, .string (rdAt s k).1.body] 69 ∧ J Bf pre wr)
    (fun bv tv _ => match tv with | .bool true => s.size + 2 - (intOf bv).toNat | _ => 0)
  case atStart => exact ⟨[], 0, Nat.zero_le _, rfl, rfl, rfl, rfl, y0, j0⟩
  case round =>
    clear y0 j0
    obtain ⟨pre, k, hk, hbe, hpre, rfl, rfl, y, j⟩ := hrel
    have HBE := Lib.hid hbe
    have HPRE := Lib.hid hpre
    have hlen : pre.length ≤ s.size := by
      have h1 := congrArg List.length hpre
      have h2 := (sq_all (four := fourOf) (s := s) (g := g) (k := 0) (Nat.zero_le _)).2.1
      rw [List.length_append] at h1
      unfold scan at h1
      omega
    clear hbe hpre
    cases hr : rf fourOf s k with
    | none =>
      have hrd : rdAt s k = (zeroFr, 0, false) := by rw [rdAt, hr]
      rw [hrd] at y ⊢
      have HQ := Lib.hid (sq_none (g := g) hr)
      clear hr hrd
      gi_wp2
      refine ⟨fun _ h => (by cases h), ?_⟩
      gi_wp2
      go_end0
      have e0 := HPRE.out
      rw [HQ.out, List.append_nil] at e0
      exact ⟨⟨_, rfl⟩, Bf, pre, hk1, e0, j⟩
    | some x =>
      obtain ⟨f, e⟩ := x
      have hrd : rdAt s k = (f, e, true) := by rw [rdAt, hr]
      rw [hrd] at y ⊢
      obtain ⟨hok, hke, hes, _⟩ := rf_some hr hk
      obtain ⟨c0, c1, c2, f0, f1, f2⟩ := y.three
      simp only at c0 c1 c2
      obtain ⟨⟨ct, cg, _⟩, _⟩ := HKn.out _ _ _ j
      by_cases hg : f.gen = g
      · have HQ := Lib.hid (sq_yes hk hr hg)
        have hgq : (f.gen == g) = true := by simp [hg]
        have HG := Lib.hid hg
        obtain ⟨fn, tmps, assign, body, hy, hR⟩ := HY.out Bf pre (f, e) wr hk1 y.lt j hlen
        unfold frEncs Fr.v at hy
        simp only at hy
        clear hr hrd hg
        gi_wp2
        refine hR.mono ?_
        rintro e' W3 ⟨rfl, j3, z3, b3⟩
        obtain ⟨⟨ct3, cg3, ht3⟩, m3⟩ := HKn.out _ _ _ j3
        have y3 : Box W3 Bf #[.int .i64 f.gen, .int .i64 f.seq, .string f.body] 69 := b3.trans y
        have hT := Lib.hid (rdAt_T s e hes)
        clear c0 c1 c2 f0 f1 f2 hy ct cg b3 y hR
        gi_wp2_with (refine ⟨trivial, ?_⟩; gi_at_call 112; refine (callsIn_wide.2 (implReadFrame_any s (e : Nat) _ (by omega) ht3)).mono ?_; rintro e'' w4 ⟨rfl, k4⟩; rw [hT.out]; unfold Fr.v; obtain ⟨c0, c1, c2, f0, f1, f2⟩ := (y3.later k4).three)
        have y4 := (y3.later k4).set3 (.int .i64 (rdAt s e).1.gen) (.int .i64 (rdAt s e).1.seq) (.string (rdAt s e).1.body)
        have g4 : W3.grownBy (set3 w4 Bf (.int .i64 (rdAt s e).1.gen) (.int .i64 (rdAt s e).1.seq) (.string (rdAt s e).1.body)) (some Bf) :=
          (((grownBy_of_bel' k4 (some Bf)).trans (stored_grown _ Bf 0 _)).trans (stored_grown _ Bf 1 _)).trans (stored_grown _ Bf 2 _)
        have j4 := HJ.out Bf (pre ++ [(f, e)]) W3 _ (some Bf) hk1 j3 g4 (fun r e => by cases e; rfl)
        unfold set3 at y4 j4
        go_roundw
        case rel => exact ⟨pre ++ [(f, e)], e, hes, behind_snoc _ _ _, by rw [← HPRE.out, HQ.out]; simp, rfl, rfl, y4, j4⟩
        case measure =>
          unfold rdAt
          cases hr' : rf fourOf s e with
          | none => simp [intOf]; omega
          | some x =>
            obtain ⟨f', e'⟩ := x
            obtain ⟨_, h1, h2, _⟩ := rf_some hr' hes
            simp [intOf]; omega
      · have HQ := Lib.hid (sq_no hr hg)
        have hgq : (f.gen == g) = false := by simp [hg]
        clear hr hrd hg
        gi_wp2
        refine ⟨fun _ h => (by cases h), ?_⟩
        gi_wp2
        go_end0
        have e0 := HPRE.out
        rw [HQ.out, List.append_nil] at e0
        exact ⟨⟨_, rfl⟩, Bf, pre, hk1, e0, j⟩

theorem framesOf_in (n : Nat) (s : ByteArray) (g : Int) (w : World) :
    CallsIn Fence.wide n Tryz.prog 113 #[.string s, .int .i64 g] w fun e w' => e = .returned (.func (.func 150) #[] #[.pointer (some ⟨w.heap.size, 0, none⟩), .pointer (some ⟨w.heap.size + 1, 0, none⟩)]) ∧ w' = (w.alloc (.cells #[.string s] 9)).alloc (.cells #[.int .i64 g] 3) := by
  refine callsIn_of_wp Tryz.func113 rfl trivial ?_ rfl
  simp only [Tryz.ntmps113, List.size_toArray, List.length_cons, List.length_nil, Nat.reduceAdd, Nat.reduceSub, Array.replicate_succ, Array.replicate_zero, List.push_toArray, List.append_toArray, List.nil_append, List.cons_append]
  gi_wp2
  go_ret
  exact ⟨by simp, rfl⟩

theorem grownBy_drewN' (w : World) (n : Nat) (r : Option Nat) : w.grownBy (w.drewN n) r := ⟨rfl, rfl, rfl, Nat.le_refl _, fun _ _ _ => rfl⟩

/-- What ScanFrames holds to while it ranges: H is the heap's size at its beginning, B the reader's own block. -/
structure ScanI (s : ByteArray) (g : Int) (w : World) (B : Nat) (pre : List (Fr × Nat)) (X : World) : Prop where
  bel : Below w.heap.size w X
  le : w.heap.size + 5 ≤ X.heap.size
  list : ∃ v, Boxed X (w.heap.size + 1) 65 v ∧ RBuf frE w.heap.size X X v (pre.map (·.1)) ∧ v.ownBlock ≠ some B ∧ ∀ k, v.ownBlock = some k → k = w.heap.size ∨ w.heap.size + 7 ≤ k
  fin : Boxed X (w.heap.size + 1 + 1) 3 (.int .i64 (behind 0 pre : Int))
  str : Boxed X (w.heap.size + 1 + 1 + 1) 9 (.string s)
  gen : Boxed X (w.heap.size + 1 + 1 + 1 + 1) 3 (.int .i64 g)

theorem ScanI.grown {s : ByteArray} {g : Int} {w : World} {B : Nat} {pre : List (Fr × Nat)} {X Y : World} {row : Option Nat} (h : ScanI s g w B pre X) (hg : X.grownBy Y row)
    (hB : w.heap.size + 7 ≤ B) (hr : ∀ r, row = some r → r = B ∨ r = w.heap.size + 5 ∨ r = w.heap.size + 6) : ScanI s g w B pre Y := by
  have ne : ∀ b, b < w.heap.size + 5 → some b ≠ row := fun b hb e => by have := hr b e.symm; omega
  obtain ⟨v, v1, v2, v3, v4⟩ := h.list
  refine ⟨h.bel.grown hg h.bel.size (fun k hk => by have := hr k hk; omega), Nat.le_trans h.le hg.size, ⟨v, v1.kept hg (ne _ (by omega)), v2.shift hg ?_, v3, v4⟩, h.fin.kept hg (ne _ (by omega)), h.str.kept hg (ne _ (by omega)), h.gen.kept hg (ne _ (by omega))⟩
  cases hv : v.ownBlock with
  | none => exact .inl rfl
  | some k =>
    refine .inr (fun e => ?_)
    have h1 := hr k e.symm
    have h2 := v4 k hv
    have h3 : k ≠ B := fun e => v3 (by rw [hv, e])
    omega

set_option maxRecDepth 100000 in
set_option maxHeartbeats 4000000 in
theorem implScanFrames_any (s : ByteArray) (g : Int) (w : World) (hs : s.size ≤ 1099511627776) (ht : SumTab w) :
    Calls Tryz.prog 75 #[.string s, .int .i64 g] w fun e w' => ScanR s g w e w' := by
  refine (callsIn_wide (n := 5)).1 ?_
  refine callsIn_of_wp_marks Tryz.func75 rfl trivial ?_ rfl
  simp only [Tryz.ntmps75, List.size_toArray, List.length_cons, List.length_nil, Nat.reduceAdd, Nat.reduceSub, Array.replicate_succ, Array.replicate_zero, List.push_toArray, List.append_toArray, List.nil_append, List.cons_append]
  gi_wp2_with (refine ⟨trivial, ?_⟩; gi_at_call 113; refine (framesOf_in _ _ _ _).mono ?_; rintro e w' ⟨rfl, rfl⟩)
  obtain ⟨W0, hW0⟩ : ∃ W0, (((((w.alloc (.cells #[] 69)).alloc (.cells #[.slice (some ⟨w.heap.size, 0, none⟩) 0 0] 65)).alloc (.cells #[.int .i64 0] 3)).alloc (.cells #[.string s] 9)).alloc (.cells #[.int .i64 g] 3)) = W0 := ⟨_, rfl⟩
  have hsz : W0.heap.size = w.heap.size + 5 := by rw [← hW0]; simp
  have I0 : ∀ B, w.heap.size + 7 ≤ B → ScanI s g w B [] W0 := by
    intro B hB
    have r0 : RBuf frE w.heap.size w (w.alloc (.cells #[] 69)) (.slice (some ⟨w.heap.size, 0, none⟩) 0 0) [] := RBuf.fresh frE w
    have x1 := (((Boxed.new (w.alloc (.cells #[] 69)) 65 (.slice (some ⟨w.heap.size, 0, none⟩) 0 0)).alloc (.cells #[.int .i64 0] 3)).alloc (.cells #[.string s] 9)).alloc (.cells #[.int .i64 g] 3)
    have x2 := ((Boxed.new ((w.alloc (.cells #[] 69)).alloc (.cells #[.slice (some ⟨w.heap.size, 0, none⟩) 0 0] 65)) 3 (.int .i64 0)).alloc (.cells #[.string s] 9)).alloc (.cells #[.int .i64 g] 3)
    have x3 := (Boxed.new (((w.alloc (.cells #[] 69)).alloc (.cells #[.slice (some ⟨w.heap.size, 0, none⟩) 0 0] 65)).alloc (.cells #[.int .i64 0] 3)) 9 (.string s)).alloc (.cells #[.int .i64 g] 3)
    have x4 := Boxed.new ((((w.alloc (.cells #[] 69)).alloc (.cells #[.slice (some ⟨w.heap.size, 0, none⟩) 0 0] 65)).alloc (.cells #[.int .i64 0] 3)).alloc (.cells #[.string s] 9)) 3 (.int .i64 g)
    have r1 := (((r0.alloc (.cells #[.slice (some ⟨w.heap.size, 0, none⟩) 0 0] 65)).alloc (.cells #[.int .i64 0] 3)).alloc (.cells #[.string s] 9)).alloc (.cells #[.int .i64 g] 3)
    have hb := r1.bel
    rw [hW0] at x1 x2 x3 x4 hb
    simp only [World.size_alloc] at x1 x2 x3 x4
    refine ⟨hb, by omega, ⟨_, x1, ?_, ?_, ?_⟩, x2, x3, x4⟩
    · have := r1.here
      rw [← hW0]
      exact this
    · show some w.heap.size ≠ some B
      intro e; have := Option.some.inj e; omega
    · intro k hk
      have : w.heap.size = k := Option.some.inj hk
      omega
  rw [hW0]
  clear hW0
  have HT : Hid (∀ x, Below w.heap.size w x → SumTab x) := fun x hb => ht.later hb
  refine wpIn_range_var (by omega) (gf := 150) (lb := #[.pointer (some ⟨w.heap.size + 1 + 1 + 1, 0, none⟩), .pointer (some ⟨w.heap.size + 1 + 1 + 1 + 1, 0, none⟩)]) rfl (enters_of Tryz.func150 (by kernel_rfl) rfl)
    (encs := frEncs) (fun _ => rfl) (framesOf1_seq 4 (by omega) s g (w.heap.size + 1 + 1 + 1) (w.heap.size + 1 + 1 + 1 + 1) (W0.heap.size + 2) hs)
    (fun B pre X => ScanI s g w B pre X) ?hK ?hI ?h0
    (fun x a' W => ∃ Bx, w.heap.size + 7 ≤ Bx ∧ Box W Bx #[.int .i64 x.1.gen, .int .i64 x.1.seq, .string x.1.body] 69 ∧ a' = { tmps := #[.string s, .int .i64 g, undef, undef, .slice none 0 0, .int .i64 0, .pointer (some ⟨w.heap.size + 1, 0, none⟩), .pointer (some ⟨w.heap.size + 1 + 1, 0, none⟩), .pointer (some ⟨Bx, 0, none⟩), .int .i64 (x.2 : Int), .slice (some ⟨w.heap.size, 0, none⟩) 0 0, .string s, .int .i64 g, .func (.func 150) #[] #[.pointer (some ⟨w.heap.size + 1 + 1 + 1, 0, none⟩), .pointer (some ⟨w.heap.size + 1 + 1 + 1 + 1, 0, none⟩)], .agg #[.int .i64 x.1.gen, .int .i64 x.1.seq, .string x.1.body], .int .i64 (x.2 : Int), undef, undef, undef, undef, undef, undef, undef], defers := [] })
    ?assign ?body ?done
  case hK =>
    intro B pre X h
    exact ⟨h.str.cell, h.gen.cell, HT.out _ h.bel⟩
  case hI =>
    intro B pre X Y row hB h hg hr
    exact h.grown hg (by omega) (fun r e => by have := hr r e; omega)
  case h0 =>
    intro B hB
    exact I0 B (by omega)
  case assign =>
    intro l x W K hW hK
    unfold frEncs Fr.v
    gi_wp2
    exact hK _ _ (World.grownBy_alloc _ _ none) ⟨W.heap.size, by omega, Box.new W _ _, rfl⟩
  case body =>
    rintro l B pre x a' W hB hW hI hok W0' hg0 ⟨Bx, hBx, yx, rfl⟩
    obtain ⟨f, e⟩ := x
    have yb : Box W Bx #[.int .i64 f.gen, .int .i64 f.seq, .string f.body] 69 := (hg0.block _ yx.lt (fun e => by have := Option.some.inj e; omega)).trans yx
    obtain ⟨v, v1, v2, v3, v4⟩ := hI.list
    obtain ⟨c0, c1, c2, _, _, _⟩ := yb.three
    have cv := v1.cell
    have fv := v1.frozen
    have ce := hI.fin.cell
    have fe := hI.fin.frozen
    have hb3 := Lib.hid (v2.alloc (.cells #[.int .i64 f.gen, .int .i64 f.seq, .string f.body] 69))
    have hnew : Hid (∀ j u, (frE.row [f])[j]? = some u → (W.alloc (.cells #[.int .i64 f.gen, .int .i64 f.seq, .string f.body] 69)).cell? ((⟨W.heap.size, 0, none⟩ : Addr).add j) = some u) := row_new frE W f
    have hl0 : Hid (((pre.map (·.1)).length + [f].length) * (frE.bytes + 1) ≤ 140737488355328) := by show _ ≤ _; simp only [frE, List.length_cons, List.length_nil, List.length_map]; omega
    have HI := Lib.hid hI
    have HV : Hid (Boxed W (w.heap.size + 1) 65 v ∧ v.ownBlock ≠ some B ∧ ∀ k, v.ownBlock = some k → k = w.heap.size ∨ w.heap.size + 7 ≤ k) := ⟨v1, v3, v4⟩
    have hvw : ∀ k, v.ownBlock = some k → k < W.heap.size := fun k hk => (v2.own.lt k hk).2
    have HVW := Lib.hid hvw
    simp only
    clear hI v1 v2 v3 v4 hvw yx hg0
    gi_wp2_with (gi_at_builtin; refine wpListIn_append_row rfl _ _ frE rfl w.heap.size _ (pre.map (·.1)) rfl hb3.out ⟨W.heap.size, 0, none⟩ [f] 1 rfl ?c1 ?c2 ?_)
    case c1 => exact hnew.out
    case c2 => exact hl0.out
    intro v5' w5 hb5 hg5 hat5
    obtain ⟨p5, q5, rfl⟩ := hb5.form
    obtain ⟨L, hL⟩ : ∃ L, (pre.map (·.1) ++ [f]).length = L := ⟨_, rfl⟩
    rw [hL] at hb5 hat5 ⊢
    clear hL
    generalize hv5 : Value.slice p5 L q5 = v5 at hb5 hat5
    have sA : (W.alloc (.cells #[.int .i64 f.gen, .int .i64 f.seq, .string f.body] 69)).heap.size = W.heap.size + 1 := by simp
    have s5 := hg5.size
    obtain ⟨v1, v3, v4⟩ := HV.out
    have ne : ∀ b, (b < w.heap.size + 5 ∧ b ≠ w.heap.size) ∨ b = w.heap.size + 5 ∨ b = w.heap.size + 6 ∨ b = B → some b ≠ v.ownBlock := by
      intro b hb e
      have h4 := v4 b e.symm
      have h3 : b ≠ B := fun e2 => v3 (by rw [← e, e2])
      omega
    have kp : ∀ b (o : Obj), W.heap[b]? = some o → some b ≠ v.ownBlock → w5.heap[b]? = some o := fun b o ho hne =>
      (hg5.block b (by have := (Array.getElem?_eq_some_iff.1 ho).1; omega) hne).trans (heap_alloc_some ho _)
    have q1 : Boxed w5 (w.heap.size + 1) 65 v := kp _ _ v1 (ne _ (by omega))
    have q2 : Boxed w5 (w.heap.size + 1 + 1) 3 (.int .i64 (behind 0 pre : Int)) := kp _ _ HI.out.fin (ne _ (by omega))
    have q3 : Boxed w5 (w.heap.size + 1 + 1 + 1) 9 (.string s) := kp _ _ HI.out.str (ne _ (by omega))
    have q4 : Boxed w5 (w.heap.size + 1 + 1 + 1 + 1) 3 (.int .i64 g) := kp _ _ HI.out.gen (ne _ (by omega))
    have bl5 : Below w.heap.size w w5 := (HI.out.bel.alloc HI.out.bel.size _).grown hg5 (by have := HI.out.bel.size; omega) (fun k hk => by have := v4 k hk; omega)
    have own5 : v5.ownBlock ≠ some B ∧ ∀ k, v5.ownBlock = some k → k = w.heap.size ∨ w.heap.size + 7 ≤ k := by
      rcases hat5 with e | e
      · rw [e]; exact ⟨v3, v4⟩
      · rw [e]
        refine ⟨fun e2 => ?_, fun k hk => ?_⟩
        · have := Option.some.inj e2; omega
        · have := Option.some.inj hk; omega
    have keep2 : ∀ b, b ≠ w.heap.size + 1 → b ≠ w.heap.size + 1 + 1 → ((w5.setCell ⟨w.heap.size + 1, 0, none⟩ v5).setCell ⟨w.heap.size + 1 + 1, 0, none⟩ (.int .i64 (e : Int))).heap[b]? = w5.heap[b]? := by
      intro b h1 h2
      rw [Below.heap_setCell _ _ _ _ (fun e => h2 e), Below.heap_setCell _ _ _ _ (fun e => h1 e)]
    have z1 := q1.cell
    have z2 := q2.cell
    have y1 := q1.frozen
    have y2 := q2.frozen
    have RO : Hid (∀ ac : Act, RoundOk W0.heap.size B (fun W' => ScanI s g w B (pre ++ [(f, e)]) W') W .normal ac ((w5.setCell ⟨w.heap.size + 1, 0, none⟩ v5).setCell ⟨w.heap.size + 1 + 1, 0, none⟩ (.int .i64 (e : Int)))) := by
      intro ac
      refine ⟨⟨?_, ?_, ⟨v5, (q1.set v5).other (by omega) _, ?_, own5⟩, ?_, ?_, ?_⟩, ?_, ?_, ?_, ?_⟩
      · exact (bl5.setCell (p := ⟨w.heap.size + 1, 0, none⟩) (by simp) _).setCell (p := ⟨w.heap.size + 1 + 1, 0, none⟩) (by simp; omega) _
      · have := HI.out.le; simp; omega
      · rw [List.map_append]
        have n1 : v5.ownBlock = none ∨ v5.ownBlock ≠ some (w.heap.size + 1) := by
          cases hv : v5.ownBlock with
          | none => exact .inl rfl
          | some k => exact .inr (fun e => by have := own5.2 k hv; have := Option.some.inj e; omega)
        have n2 : v5.ownBlock = none ∨ v5.ownBlock ≠ some (w.heap.size + 1 + 1) := by
          cases hv : v5.ownBlock with
          | none => exact .inl rfl
          | some k => exact .inr (fun e => by have := own5.2 k hv; have := Option.some.inj e; omega)
        exact (hb5.here.shift (stored_grown _ _ 0 _) n1).shift (stored_grown _ _ 0 _) n2
      · rw [behind_snoc]; exact (q2.other (by omega) _).set _
      · exact (q3.other (by omega) _).other (by omega) _
      · exact (q4.other (by omega) _).other (by omega) _
      · simp; omega
      · have hl : W0.heap.size < W.heap.size := by omega
        rw [keep2 _ (by omega) (by omega), hg5.block _ (by omega) (ne _ (by omega)), Below.heap_alloc _ _ _ hl]
      · have hl : W0.heap.size + 1 < W.heap.size := by omega
        rw [keep2 _ (by omega) (by omega), hg5.block _ (by omega) (ne _ (by omega)), Below.heap_alloc _ _ _ hl]
      · rw [keep2 _ (by omega) (by omega), hg5.block _ (by omega) (ne _ (by omega)), Below.heap_alloc _ _ _ hW]
    clear HI HV HVW hb3 hnew hl0 c0 c1 c2 cv fv ce fe kp ne own5 keep2 q1 q2 q3 q4 hb5 hg5 hat5 v1 v3 v4 bl5
    subst hv5
    gi_wp2
    exact RO.out _
  case done =>
    rintro D B xs W rfl hB rfl h hD
    obtain ⟨v, v1, v2, v3, v4⟩ := h.list
    have cv := v1.cell
    have ce := h.fin.cell
    have HV := Lib.hid v2
    have HB := Lib.hid h.bel
    have HD := Lib.hid hD
    have HO := Lib.hid v4
    clear v1 v2 v3 v4 h hD I0 HT ht
    gi_wp2
    gi_quiet (fail)
    gi_wp2
    have HD2 : (W.drewN nq).heap[W0.heap.size]? = some (.deferred (some [])) := HD.out
    have gP := grownBy_putObj' (W.drewN nq) W0.heap.size (.deferred none)
    have gD := grownBy_drewN' W nq (some W0.heap.size)
    refine ⟨by simp, .inl ⟨_, _, rfl, run_takeDeferred HD2, ?_⟩⟩
    refine ⟨.tuple #[v, .int .i64 (behind 0 (scan s g) : Int)], by simp [results, Tryz.results75], v, rfl, ?_⟩
    have nD : v.ownBlock = none ∨ v.ownBlock ≠ some W0.heap.size := by
      cases hv : v.ownBlock with
      | none => exact .inl rfl
      | some k => exact .inr (fun e => by have := HO.out k hv; have := Option.some.inj e; omega)
    have hl := hsz
    refine ((HV.out.shift gD nD).shift gP nD).down ?_ (Nat.le_refl _)
    exact (HB.out.grown gD HB.out.size (fun k hk => by have := Option.some.inj hk; omega)).grown gP (Nat.le_trans HB.out.size gD.size) (fun k hk => by have := Option.some.inj hk; omega)

end Go.Proofs.YtieenkloiicnkaaGreatDoor
