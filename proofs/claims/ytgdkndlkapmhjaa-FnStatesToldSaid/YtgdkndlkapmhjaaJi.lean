/- Texts of our own, joined. -/
import Derived.Test.YtgdkndlkapmhjaaJf
import Derived.Test.YtgdkndlkapmhjaaJh
/- What records tell: the model's mails of a box. -/
namespace Go.Proofs.Ytgdkndlkapmhjaa
open Go.RowKit

theorem uidK_yes {valid : Int} {l : List Itm} {x : Itm} (h1 : x.2.kind = 3) (h2 : x.2.valid = valid) (h3 : bestR 5 valid x.2.uid l = none) : uidK valid l x = some x.2.uid := if_pos ⟨h1, h2, h3⟩
theorem uidK_no {valid : Int} {l : List Itm} {x : Itm} (h : ¬ (x.2.kind = 3 ∧ x.2.valid = valid ∧ bestR 5 valid x.2.uid l = none)) : uidK valid l x = none := if_neg h
theorem up_yes {f : Itm → Option Int} {l : List Itm} {i : Nat} {x : Itm} {us : List Int} {n : Int} (hst : upOf f (l.take (i + 1)) = match f x with | some n => insI us n | none => us) (h : f x = some n) : upOf f (l.take (i + 1)) = insI us n := by rw [hst, h]
theorem up_no {f : Itm → Option Int} {l : List Itm} {i : Nat} {x : Itm} {us : List Int} (hst : upOf f (l.take (i + 1)) = match f x with | some n => insI us n | none => us) (h : f x = none) : upOf f (l.take (i + 1)) = us := by rw [hst, h]
theorem mailK_own {valid u : Int} {l : List Itm} (h : bestR 4 valid u l = none) : mailK valid l u = ⟨u, (bestX (bestR 3 valid u l)).2.flags, (bestX (bestR 3 valid u l)).2.text⟩ := by
  unfold mailK; rw [h]
  cases bestR 3 valid u l <;> rfl
theorem mailK_flag {valid u : Int} {l : List Itm} {y : Itm} (h : bestR 4 valid u l = some y) : mailK valid l u = ⟨u, y.2.flags, (bestX (bestR 3 valid u l)).2.text⟩ := by
  unfold mailK; rw [h]
  cases bestR 3 valid u l <;> rfl

set_option maxRecDepth 100000 in
set_option maxHeartbeats 4000000 in
theorem specMails_any (l : List Itm) (v : Value) (valid : Int) (w : World) (h : Rows' itE w v l) (hl : l.length ≤ 1000) :
    Calls Try.prog 35 #[v, .int .i64 valid] w fun e w' => ∃ v', e = .returned v' ∧ RBuf mlE w.heap.size w w' v' (mailsOf valid l) := by
  obtain ⟨ad, cap, rfl, hrow⟩ := h.items
  have HR := Lib.hid hrow
  have HW : Hid (∀ X, Below w.heap.size w X → Rows' itE X (.slice ad l.length cap) l) := fun X hb => h.later hb
  clear h hrow
  have I0 := IBuf.fresh w
  have HU : Hid (∀ i, (upOf (uidK valid l) (l.take i)).length ≤ 1000 ∨ l.length < i) := fun i => by
    by_cases c : i ≤ l.length
    · have := upOf_len (uidK valid l) l i; exact .inl (by omega)
    · exact .inr (by omega)
  go_enter Try.func35, Try.ntmps35
  go_wp2
  go_loopw [5, 6] (fun uv iv wr => ∃ i : Nat, i ≤ l.length ∧ iv = .int .i64 (i : Int) ∧ IBuf w.heap.size w wr uv (upOf (uidK valid l) (l.take i))) (fun _ iv _ => l.length - (intOf iv).toNat)
  case atStart => exact ⟨0, by omega, rfl, I0⟩
  case round =>
    clear I0
    obtain ⟨i, hi, rfl, I⟩ := hrel
    by_cases hlt : i < l.length
    · have hgx : l[i]? = some l[i] := List.getElem?_eq_getElem hlt
      have hst := upOf_take (f := uidK valid l) hgx
      obtain ⟨ga, oa, rfl, a0, a1, a2, a3, a4, a5, a6, a7, a8⟩ := HR.out _ I.bel i _ hgx
      generalize l[i] = x at *
      obtain ⟨sq, K, V, U, N, FL, US, NM, TX⟩ := x
      simp only at a0 a1 a2 a3 a4 a5 a6 a7 a8
      have hlu : (upOf (uidK valid l) (l.take i)).length ≤ 1000 := by rcases HU.out i with c | c; exact c; omega
      generalize upOf (uidK valid l) (l.take i) = us at *
      have HST := Lib.hid hst
      have hi0 : (0 : Int) ≤ (i : Int) := by omega
      have hi1 : (i : Int) < (l.length : Int) := by omega
      clear hst hgx
      have J1 := I.alloc (.cells #[.int .i64 K, .int .i64 V, .int .i64 U, .int .i64 N, .int .i64 FL, .string US, .string NM, .string TX] 47)
      have X1 := Box.new wr #[.int .i64 K, .int .i64 V, .int .i64 U, .int .i64 N, .int .i64 FL, .string US, .string NM, .string TX] 47
      obtain ⟨o, ho⟩ : ∃ o, bestR 5 valid U l = o := ⟨_, rfl⟩
      have HO := Lib.hid ho
      obtain ⟨z0, z1, z2, z3, z4, z5, z6, z7, _⟩ := X1.eight
      clear I
      go_wp2_with fail
      clear a0 a1 a2 a3 a4 a5 a6 a7 a8 z0 z1 z2 z3 z4 z5 z6 z7
      generalize wr.alloc (.cells #[.int .i64 K, .int .i64 V, .int .i64 U, .int .i64 N, .int .i64 FL, .string US, .string NM, .string TX] 47) = w1 at J1 X1 ⊢
      generalize wr.heap.size = g7 at X1 ⊢
      refine (specBest_any l _ 5 valid U _ (HW.out _ J1.bel) (by omega)).mono ?_
      rintro e w2 ⟨rfl, k2⟩
      rw [bestT_eq, ho]
      unfold itV
      have J2 := (J1.later k2).alloc (.cells #[.int .i64 (bestX o).1, .int .i64 (bestX o).2.kind, .int .i64 (bestX o).2.valid, .int .i64 (bestX o).2.uid, .int .i64 (bestX o).2.next, .int .i64 (bestX o).2.flags, .string (bestX o).2.user, .string (bestX o).2.name, .string (bestX o).2.text] 49)
      have X2 := (X1.later k2).later (belNew w2 (.cells #[.int .i64 (bestX o).1, .int .i64 (bestX o).2.kind, .int .i64 (bestX o).2.valid, .int .i64 (bestX o).2.uid, .int .i64 (bestX o).2.next, .int .i64 (bestX o).2.flags, .string (bestX o).2.user, .string (bestX o).2.name, .string (bestX o).2.text] 49))
      clear J1 X1 k2 ho
      go_upto_region 7 with fail
      generalize w2.alloc (.cells #[.int .i64 (bestX o).1, .int .i64 (bestX o).2.kind, .int .i64 (bestX o).2.valid, .int .i64 (bestX o).2.uid, .int .i64 (bestX o).2.next, .int .i64 (bestX o).2.flags, .string (bestX o).2.user, .string (bestX o).2.name, .string (bestX o).2.text] 49) = w3 at J2 X2 ⊢
      generalize w2.heap.size = g8
      obtain ⟨z0, z1, z2, z3, z4, z5, z6, z7, _⟩ := X2.eight
      by_cases hK : K = 3
      · subst hK
        by_cases hV : V = valid
        · subst hV
          cases o with
          | none =>
            have HE : Hid (upOf (uidK V l) (l.take (i + 1)) = insI us U) := up_yes HST.out (uidK_yes (x := (sq, ⟨3, V, U, N, FL, US, NM, TX⟩)) rfl rfl HO.out)
            have hn : (none : Option Itm).isSome = false := rfl
            go_wp2_with fail
            refine (specSorted_any us _ U _ J2.ints (by omega)).mono ?_
            rintro e w4 ⟨v4, rfl, J4⟩
            have J5 := IBuf.under J2.bel J4
            clear J4 J2 X2 z0 z1 z2 z3 z4 z5 z6 z7
            go_wp2
            exact ⟨⟨i + 1, by omega, by simp, by rw [HE.out]; exact J5⟩, by first | omega | (simp [intOf]; omega)⟩
          | some y =>
            have HE : Hid (upOf (uidK V l) (l.take (i + 1)) = us) := up_no HST.out (uidK_no (x := (sq, ⟨3, V, U, N, FL, US, NM, TX⟩)) (fun c => by have := c.2.2; simp only at this; rw [HO.out] at this; cases this))
            have hn : (some y : Option Itm).isSome = true := rfl
            clear X2
            go_wp2
            exact ⟨⟨i + 1, by omega, by simp, by rw [HE.out]; exact J2⟩, by first | omega | (simp [intOf]; omega)⟩
        · have HE : Hid (upOf (uidK valid l) (l.take (i + 1)) = us) := up_no HST.out (uidK_no (x := (sq, ⟨3, V, U, N, FL, US, NM, TX⟩)) (fun c => hV c.2.1))
          have hV2 : (V == valid) = false := beq_eq_false_iff_ne.2 hV
          clear X2
          go_wp2
          exact ⟨⟨i + 1, by omega, by simp, by rw [HE.out]; exact J2⟩, by first | omega | (simp [intOf]; omega)⟩
      · have HE : Hid (upOf (uidK valid l) (l.take (i + 1)) = us) := up_no HST.out (uidK_no (x := (sq, ⟨K, V, U, N, FL, US, NM, TX⟩)) (fun c => hK c.1))
        have hK2 : (K == 3) = false := beq_eq_false_iff_ne.2 hK
        clear X2
        go_wp2
        exact ⟨⟨i + 1, by omega, by simp, by rw [HE.out]; exact J2⟩, by first | omega | (simp [intOf]; omega)⟩
    · have hge : ¬ (i : Int) < (l.length : Int) := by omega
      have hil : i = l.length := by omega
      have hlu : (upOf (uidK valid l) (l.take i)).length ≤ 1000 := by rcases HU.out i with c | c; exact c; omega
      have HM : Hid (mailsOf valid l = (upOf (uidK valid l) (l.take i)).map (mailK valid l)) := by
        show mailsOf valid l = _
        rw [hil, List.take_length]; rfl
      generalize upOf (uidK valid l) (l.take i) = us at *
      clear hil HU hi
      obtain ⟨wa, hwa⟩ : ∃ wa, wa = wr := ⟨_, rfl⟩
      subst hwa
      have hbw := I.bel
      have hiu := I.ints
      obtain ⟨ua, uc, rfl, hur⟩ : ∃ (ua : Option Addr) (uc : Nat), u5 = .slice ua us.length uc ∧ ∀ X, Below wa.heap.size wa X → ∀ j b, us[j]? = some b → ∃ g, ua = some ⟨g, 0, none⟩ ∧ g < wa.heap.size ∧ X.cell? ⟨g, j, none⟩ = some (.int .i64 b) := by
        rcases hiu with ⟨rfl, a, c, rfl⟩ | ⟨g, c, rfl, hc, hg, hcl⟩
        · exact ⟨a, c, rfl, fun X _ i x hi => by cases hi⟩
        · exact ⟨_, c, rfl, fun X hb i b hi => ⟨g, rfl, hg, (hb.cell (p := ⟨g, i, none⟩) hg).trans (hcl i b hi)⟩⟩
      have HUR := Lib.hid hur
      have R0 := RBuf.fresh mlE wa
      clear hur hiu I
      go_wp2
      clear hge
      go_loopw [10, 11] (fun ov iv wr => ∃ j : Nat, j ≤ us.length ∧ iv = .int .i64 (j : Int) ∧ RBuf mlE wa.heap.size wa wr ov ((us.take j).map (mailK valid l))) (fun _ iv _ => us.length - (intOf iv).toNat)
      case atStart => exact ⟨0, by omega, rfl, R0⟩
      case round =>
        clear R0
        obtain ⟨j, hj, rfl, I⟩ := hrel
        by_cases hlj : j < us.length
        · have hgu : us[j]? = some us[j] := List.getElem?_eq_getElem hlj
          have htk : (us.take (j + 1)).map (mailK valid l) = (us.take j).map (mailK valid l) ++ [mailK valid l us[j]] := by
            rw [List.take_add_one, hgu, List.map_append]; rfl
          have hur := HUR.out
          obtain ⟨ug, rfl, hug, c0⟩ := hur _ I.bel j _ hgu
          have HCU : Hid (∀ X, Below wa.heap.size wa X → X.cell? ⟨ug, j, none⟩ = some (.int .i64 us[j])) := fun X hb => by
            obtain ⟨g2, e2, _, c2⟩ := HUR.out X hb j _ hgu
            cases e2
            exact c2
          generalize us[j] = u at *
          clear hur hgu
          have hj0 : (0 : Int) ≤ (j : Int) := by omega
          have hj1 : (j : Int) < (us.length : Int) := by omega
          obtain ⟨o3, ho3⟩ : ∃ o, bestR 3 valid u l = o := ⟨_, rfl⟩
          obtain ⟨o4, ho4⟩ : ∃ o, bestR 4 valid u l = o := ⟨_, rfl⟩
          have HO4 := Lib.hid ho4
          have HO3 := Lib.hid ho3
          have HTK := Lib.hid htk
          clear htk
          go_wp2_with fail
          clear c0
          refine (specBest_any l _ 3 valid u _ (HW.out _ (hbw.trans (I.bel.mono hbw.size))) (by omega)).mono ?_
          rintro e w1 ⟨rfl, k1⟩
          rw [bestT_eq, ho3]
          unfold itV
          have I2 := (I.later k1).alloc (.cells #[.int .i64 (bestX o3).1, .int .i64 (bestX o3).2.kind, .int .i64 (bestX o3).2.valid, .int .i64 (bestX o3).2.uid, .int .i64 (bestX o3).2.next, .int .i64 (bestX o3).2.flags, .string (bestX o3).2.user, .string (bestX o3).2.name, .string (bestX o3).2.text] 49)
          have X2 := Box.new w1 #[.int .i64 (bestX o3).1, .int .i64 (bestX o3).2.kind, .int .i64 (bestX o3).2.valid, .int .i64 (bestX o3).2.uid, .int .i64 (bestX o3).2.next, .int .i64 (bestX o3).2.flags, .string (bestX o3).2.user, .string (bestX o3).2.name, .string (bestX o3).2.text] 49
          clear I k1
          go_upto_region 14 with fail
          generalize w1.alloc (.cells #[.int .i64 (bestX o3).1, .int .i64 (bestX o3).2.kind, .int .i64 (bestX o3).2.valid, .int .i64 (bestX o3).2.uid, .int .i64 (bestX o3).2.next, .int .i64 (bestX o3).2.flags, .string (bestX o3).2.user, .string (bestX o3).2.name, .string (bestX o3).2.text] 49) = w2 at I2 X2 ⊢
          generalize w1.heap.size = gi at X2 ⊢
          obtain ⟨y3, hy3⟩ : ∃ y3, bestX o3 = y3 := ⟨_, rfl⟩
          rw [hy3] at X2 ⊢
          have HY3 := Lib.hid hy3
          clear hy3
          have c0 := HCU.out _ I2.bel
          obtain ⟨p0, p1, p2, p3, p4, p5, p6, p7, p8, _⟩ := X2.nine
          have c0 : w2.drew.cell? ⟨ug, j, none⟩ = some (.int .i64 u) := HCU.out _ (I2.bel.trans ((Below.refl w2.heap.size w2).drew.mono I2.le))
          have p5 : w2.drew.cell? ⟨gi, 5, none⟩ = some (.int .i64 y3.2.flags) := p5
          have p8 : w2.drew.cell? ⟨gi, 8, none⟩ = some (.string y3.2.text) := p8
          have n1 := World.new_ne _ _ c0
          have n2 := World.new_ne _ _ p5
          go_region_held3 (fun X => X.cell? ⟨ug, j, none⟩ = some (.int .i64 u) ∧ X.cell? ⟨gi, 5, none⟩ = some (.int .i64 y3.2.flags) ∧ X.cell? ⟨gi, 8, none⟩ = some (.string y3.2.text)) (go_keep) (fail)
          rename_i hHeld
          clear hHeld p0 p1 p2 p3 p4 p5 p6 p7 p8 n1 n2 c0
          have I3 := (I2.alloc (.cells #[.int .i64 u, .int .i64 y3.2.flags, .string y3.2.text] 65)).drew
          have X3 : Box (w2.alloc (.cells #[.int .i64 u, .int .i64 y3.2.flags, .string y3.2.text] 65)).drew w2.heap.size #[.int .i64 u, .int .i64 y3.2.flags, .string y3.2.text] 65 := Box.new w2 #[.int .i64 u, .int .i64 y3.2.flags, .string y3.2.text] 65
          have HLE : Hid (wa.heap.size ≤ w2.heap.size ∧ (u10.ownBlock = none ∨ u10.ownBlock ≠ some w2.heap.size)) := ⟨I2.le, by
            cases hv : u10.ownBlock with
            | none => exact .inl rfl
            | some k => exact .inr (fun e => by cases e; have := (I2.own.lt _ hv).2; omega)⟩
          clear I2 X2
          generalize (w2.alloc (.cells #[.int .i64 u, .int .i64 y3.2.flags, .string y3.2.text] 65)).drew = w3 at I3 X3 ⊢
          have HGB : Hid (wa.heap.size ≤ w2.heap.size) := Nat.le_trans HLE.out.1 (Nat.le_refl _)
          have HNB : Hid (u10.ownBlock = none ∨ u10.ownBlock ≠ some w2.heap.size) := HLE.out.2
          generalize w2.heap.size = gm at X3 HGB HNB ⊢
          have c0 := HCU.out _ I3.bel
          go_wp2_with fail
          clear c0
          refine (specBest_any l _ 4 valid u _ (HW.out _ (hbw.trans (I3.bel.mono hbw.size))) (by omega)).mono ?_
          rintro e w4 ⟨rfl, k4⟩
          rw [bestT_eq, ho4]
          unfold itV
          have I5 := (I3.later k4).alloc (.cells #[.int .i64 (bestX o4).1, .int .i64 (bestX o4).2.kind, .int .i64 (bestX o4).2.valid, .int .i64 (bestX o4).2.uid, .int .i64 (bestX o4).2.next, .int .i64 (bestX o4).2.flags, .string (bestX o4).2.user, .string (bestX o4).2.name, .string (bestX o4).2.text] 49)
          have X5 := Box.new w4 #[.int .i64 (bestX o4).1, .int .i64 (bestX o4).2.kind, .int .i64 (bestX o4).2.valid, .int .i64 (bestX o4).2.uid, .int .i64 (bestX o4).2.next, .int .i64 (bestX o4).2.flags, .string (bestX o4).2.user, .string (bestX o4).2.name, .string (bestX o4).2.text] 49
          have Y5 := (X3.later k4).later (belNew w4 (.cells #[.int .i64 (bestX o4).1, .int .i64 (bestX o4).2.kind, .int .i64 (bestX o4).2.valid, .int .i64 (bestX o4).2.uid, .int .i64 (bestX o4).2.next, .int .i64 (bestX o4).2.flags, .string (bestX o4).2.user, .string (bestX o4).2.name, .string (bestX o4).2.text] 49))
          have hne5 : gm ≠ w4.heap.size := by have := (X3.later k4).lt; omega
          clear I3 X3 k4
          go_upto_region 16 with fail
          generalize w4.alloc (.cells #[.int .i64 (bestX o4).1, .int .i64 (bestX o4).2.kind, .int .i64 (bestX o4).2.valid, .int .i64 (bestX o4).2.uid, .int .i64 (bestX o4).2.next, .int .i64 (bestX o4).2.flags, .string (bestX o4).2.user, .string (bestX o4).2.name, .string (bestX o4).2.text] 49) = w5 at I5 X5 Y5 ⊢
          generalize w4.heap.size = gj at X5 hne5 ⊢
          cases o4 with
          | none =>
            have HE : Hid (mailK valid l u = ⟨u, y3.2.flags, y3.2.text⟩) := by rw [← HY3.out, ← HO3.out]; exact mailK_own HO4.out
            have hn : (none : Option Itm).isSome = false := rfl
            obtain ⟨m0, m1, m2, _, _, _⟩ := Y5.three
            clear X5 Y5
            have R6 := (I5.alloc (.cells #[.int .i64 u, .int .i64 y3.2.flags, .string y3.2.text] 65)).here
            have L6 := RBuf.lit1 mlE w5 ⟨u, y3.2.flags, y3.2.text⟩
            have HR6 := Lib.hid R6
            have HL6 := Lib.hid L6
            have HI5 := Lib.hid (I5.alloc (.cells #[.int .i64 u, .int .i64 y3.2.flags, .string y3.2.text] 65))
            have hll : ((us.take j).map (mailK valid l)).length ≤ 1000 := by simp; omega
            clear R6 L6 I5
            go_wp2_with (at_builtin; refine wpList_append_rows rfl _ _ mlE rfl wa.heap.size _ _ rfl HR6.out w5.heap.size _ [⟨u, y3.2.flags, y3.2.text⟩] rfl HL6.out (by show _ * 33 ≤ _; simp only [List.length_cons, List.length_nil]; omega) ?_; intro v6 w6 r6 g6 at6)
            exact ⟨⟨j + 1, by omega, by simp, by rw [HTK.out, HE.out]; exact ⟨r6.own, HI5.out.bel.grown g6 HI5.out.le (fun k hk => (HI5.out.own.lt k hk).1), r6.le⟩⟩, by first | omega | (simp [intOf]; omega)⟩
          | some y4 =>
            have HE : Hid (mailK valid l u = ⟨u, y4.2.flags, y3.2.text⟩) := by rw [← HY3.out, ← HO3.out]; exact mailK_flag HO4.out
            have hn : (some y4 : Option Itm).isSome = true := rfl
            have hbx : bestX (some y4) = y4 := rfl
            rw [hbx] at X5
            obtain ⟨q0, q1, q2, q3, q4, q5, q6, q7, q8, _⟩ := X5.nine
            obtain ⟨m0, m1, m2, mf0, mf1, mf2⟩ := Y5.three
            have Z5 : Box (w5.setCell ⟨gm, 1, none⟩ (.int .i64 y4.2.flags)) gm #[.int .i64 u, .int .i64 y4.2.flags, .string y3.2.text] 65 := Y5.set 1 _
            have hgB : wa.heap.size ≤ gm := HGB.out
            have J5 : RBuf mlE wa.heap.size wa (w5.setCell ⟨gm, 1, none⟩ (.int .i64 y4.2.flags)) u10 ((us.take j).map (mailK valid l)) := I5.grown (stored_grown w5 gm 1 _) (HNB.out) (fun k hk => by cases hk; exact hgB)
            go_upto_region 18 with fail
            clear X5 Y5 q0 q1 q2 q3 q4 q5 q6 q7 q8 m0 m1 m2 mf0 mf1 mf2 I5
            generalize w5.setCell ⟨gm, 1, none⟩ (.int .i64 y4.2.flags) = w7 at J5 Z5 ⊢
            have I5 := J5
            clear J5
            obtain ⟨m0, m1, m2, _, _, _⟩ := Z5.three
            clear Z5
            have R6 := (I5.alloc (.cells #[.int .i64 u, .int .i64 y4.2.flags, .string y3.2.text] 65)).here
            have L6 := RBuf.lit1 mlE w7 ⟨u, y4.2.flags, y3.2.text⟩
            have HR6 := Lib.hid R6
            have HL6 := Lib.hid L6
            have HI5 := Lib.hid (I5.alloc (.cells #[.int .i64 u, .int .i64 y4.2.flags, .string y3.2.text] 65))
            have hll : ((us.take j).map (mailK valid l)).length ≤ 1000 := by simp; omega
            clear R6 L6 I5
            go_wp2_with (at_builtin; refine wpList_append_rows rfl _ _ mlE rfl wa.heap.size _ _ rfl HR6.out w7.heap.size _ [⟨u, y4.2.flags, y3.2.text⟩] rfl HL6.out (by show _ * 33 ≤ _; simp only [List.length_cons, List.length_nil]; omega) ?_; intro v6 w6 r6 g6 at6)
            exact ⟨⟨j + 1, by omega, by simp, by rw [HTK.out, HE.out]; exact ⟨r6.own, HI5.out.bel.grown g6 HI5.out.le (fun k hk => (HI5.out.own.lt k hk).1), r6.le⟩⟩, by first | omega | (simp [intOf]; omega)⟩
        · have hge : ¬ (j : Int) < (us.length : Int) := by omega
          have hjl : j = us.length := by omega
          rw [hjl, List.take_length, ← HM.out] at I
          have HI := Lib.hid (I.down (hbw.trans (I.bel.mono hbw.size)) hbw.size)
          clear I
          go_wp2
          go_ret
          exact ⟨_, rfl, HI.out⟩

end Go.Proofs.Ytgdkndlkapmhjaa

/- What records tell: the model's choice of what tells a box. -/
namespace Go.Proofs.Ytgdkndlkapmhjaa
open Go.RowKit

theorem tell_yes {p : Itm → Bool} {o : Option Itm} {x : Itm} (h : p x = true) (h2 : o = none ∨ (bestX o).2.next < x.2.next ∨ (x.2.next = (bestX o).2.next ∧ (bestX o).1 < x.1)) : bestStep (fun x => x.2.next) p o x = some x := by
  unfold bestStep; rw [if_pos h]
  cases o with
  | none => rfl
  | some y =>
    have : y.2.next < x.2.next ∨ (x.2.next = y.2.next ∧ y.1 < x.1) := by rcases h2 with h2 | h2; cases h2; exact h2
    exact if_pos (decide_eq_true this)
theorem tell_old {p : Itm → Bool} {o : Option Itm} {x : Itm} (h : p x = true) (h1 : o ≠ none) (h2 : ¬ ((bestX o).2.next < x.2.next ∨ (x.2.next = (bestX o).2.next ∧ (bestX o).1 < x.1))) : bestStep (fun x => x.2.next) p o x = o := by
  unfold bestStep; rw [if_pos h]
  cases o with
  | none => exact absurd rfl h1
  | some y => exact if_neg (fun c => h2 (of_decide_eq_true c))
/-- What has been chosen lies there: its number is none if nothing was. -/
theorem best_zero {k : Itm → Int} {p : Itm → Bool} {l : List Itm} {i : Nat} (hpos : ∀ x ∈ l, x.1 ≠ 0) (h : (bestX (bestO k p (l.take i))).1 = 0) : bestO k p (l.take i) = none := by
  have hI := bestO_I k p (l.take i)
  cases ho : bestO k p (l.take i) with
  | none => rfl
  | some y =>
    rw [ho] at hI h
    exact absurd h (hpos y (List.mem_of_mem_take hI.1))

set_option maxRecDepth 100000 in
set_option maxHeartbeats 2000000 in
theorem specTell_any (l : List Itm) (v : Value) (valid : Int) (w : World) (h : Rows' itE w v l) (hl : l.length ≤ 1099511627776) (hpos : ∀ x ∈ l, x.1 ≠ 0) :
    Calls Try.prog 33 #[v, .int .i64 valid] w fun e w' => e = .returned (itV (bestX (tellO valid l)).1 (bestX (tellO valid l)).2) ∧ Below w.heap.size w w' := by
  obtain ⟨ad, cap, rfl, hrow⟩ : ∃ (ad : Option Addr) (cap : Nat), v = .slice ad l.length cap ∧ ∀ X, Below w.heap.size w X → ∀ i x, l[i]? = some x → ∃ g off, ad = some ⟨g, off, none⟩ ∧ X.cell? ⟨g, off + i * 9, none⟩ = some (.int .i64 x.1) ∧ X.cell? ⟨g, off + i * 9 + 1, none⟩ = some (.int .i64 x.2.kind) ∧ X.cell? ⟨g, off + i * 9 + 2, none⟩ = some (.int .i64 x.2.valid) ∧ X.cell? ⟨g, off + i * 9 + 3, none⟩ = some (.int .i64 x.2.uid) ∧ X.cell? ⟨g, off + i * 9 + 4, none⟩ = some (.int .i64 x.2.next) ∧ X.cell? ⟨g, off + i * 9 + 5, none⟩ = some (.int .i64 x.2.flags) ∧ X.cell? ⟨g, off + i * 9 + 6, none⟩ = some (.string x.2.user) ∧ X.cell? ⟨g, off + i * 9 + 7, none⟩ = some (.string x.2.name) ∧ X.cell? ⟨g, off + i * 9 + 8, none⟩ = some (.string x.2.text) := by
    rcases h.ways with ⟨rfl, a, c, rfl⟩ | ⟨hne, g, off, c, rfl, hc, hg, hcl⟩
    · exact ⟨a, c, rfl, fun X _ i x hi => by cases hi⟩
    · exact ⟨_, c, rfl, fun X hb i x hi => ⟨g, off, rfl, it_cells hcl hg hb i x hi⟩⟩
  have HR := Lib.hid hrow
  clear h hrow
  obtain ⟨p, hp⟩ : ∃ p : Itm → Bool, p = fun x => decide (x.2.kind = 1 ∧ x.2.valid = valid) := ⟨_, rfl⟩
  have hpx : ∀ x, p x = decide (x.2.kind = 1 ∧ x.2.valid = valid) := fun x => by rw [hp]
  have HPX := Lib.hid hpx
  have HZ : Hid (∀ i, (bestX (bestO (fun x => x.2.next) p (l.take i))).1 = 0 → bestO (fun x => x.2.next) p (l.take i) = none) := fun i => best_zero hpos
  have HB : Hid (tellO valid l = bestO (fun x => x.2.next) p (l.take l.length)) := by rw [hp, List.take_length]; rfl
  clear hp hpx hpos
  have I0 : BsI w w.heap.size (w.heap.size + 1) (bestX (bestO (fun x => x.2.next) p (l.take 0))) ((w.alloc (.cells #[.int .i64 0, .int .i64 0, .int .i64 0, .int .i64 0, .int .i64 0, .int .i64 0, .string ⟨#[]⟩, .string ⟨#[]⟩, .string ⟨#[]⟩] 49)).alloc (.cells #[.int .i64 0, .int .i64 0, .int .i64 0, .int .i64 0, .int .i64 0, .int .i64 0, .string ⟨#[]⟩, .string ⟨#[]⟩, .string ⟨#[]⟩] 49)) := by
    have hb := (belNew w (.cells #[.int .i64 0, .int .i64 0, .int .i64 0, .int .i64 0, .int .i64 0, .int .i64 0, .string ⟨#[]⟩, .string ⟨#[]⟩, .string ⟨#[]⟩] 49)).trans ((belNew (w.alloc (.cells #[.int .i64 0, .int .i64 0, .int .i64 0, .int .i64 0, .int .i64 0, .int .i64 0, .string ⟨#[]⟩, .string ⟨#[]⟩, .string ⟨#[]⟩] 49)) (.cells #[.int .i64 0, .int .i64 0, .int .i64 0, .int .i64 0, .int .i64 0, .int .i64 0, .string ⟨#[]⟩, .string ⟨#[]⟩, .string ⟨#[]⟩] 49)).mono (by simp))
    have h2 := Box.new (w.alloc (.cells #[.int .i64 0, .int .i64 0, .int .i64 0, .int .i64 0, .int .i64 0, .int .i64 0, .string ⟨#[]⟩, .string ⟨#[]⟩, .string ⟨#[]⟩] 49)) #[.int .i64 0, .int .i64 0, .int .i64 0, .int .i64 0, .int .i64 0, .int .i64 0, .string ⟨#[]⟩, .string ⟨#[]⟩, .string ⟨#[]⟩] 49
    have e : (w.alloc (.cells #[.int .i64 0, .int .i64 0, .int .i64 0, .int .i64 0, .int .i64 0, .int .i64 0, .string ⟨#[]⟩, .string ⟨#[]⟩, .string ⟨#[]⟩] 49)).heap.size = w.heap.size + 1 := by simp
    rw [e] at h2
    exact ⟨(Box.new w _ _).later (belNew _ _), h2, hb, Nat.le_refl _, by omega, by omega⟩
  go_enter Try.func33, Try.ntmps33
  go_wp2
  generalize (w.alloc (.cells #[.int .i64 0, .int .i64 0, .int .i64 0, .int .i64 0, .int .i64 0, .int .i64 0, .string ⟨#[]⟩, .string ⟨#[]⟩, .string ⟨#[]⟩] 49)).alloc (.cells #[.int .i64 0, .int .i64 0, .int .i64 0, .int .i64 0, .int .i64 0, .int .i64 0, .string ⟨#[]⟩, .string ⟨#[]⟩, .string ⟨#[]⟩] 49) = W at I0 ⊢
  obtain ⟨g1, hg1⟩ : ∃ g1, w.heap.size + 1 = g1 := ⟨_, rfl⟩
  rw [hg1] at I0 ⊢
  clear hg1
  go_loopw [6] (fun iv wr => ∃ i : Nat, i ≤ l.length ∧ iv = .int .i64 (i : Int) ∧ BsI w w.heap.size g1 (bestX (bestO (fun x => x.2.next) p (l.take i))) wr) (fun iv _ => l.length - (intOf iv).toNat)
  case atStart => exact ⟨0, by omega, rfl, I0⟩
  case round =>
    clear I0
    obtain ⟨i, hi, rfl, I⟩ := hrel
    by_cases hlt : i < l.length
    · have hgx : l[i]? = some l[i] := List.getElem?_eq_getElem hlt
      have hst := bestO_take (k := fun x => x.2.next) (p := p) hgx
      have hpx := HPX.out l[i]
      have hz := HZ.out i
      obtain ⟨ga, oa, rfl, a0, a1, a2, a3, a4, a5, a6, a7, a8⟩ := HR.out _ I.bel i _ hgx
      generalize l[i] = x at *
      obtain ⟨sq, K, V, U, N, FL, US, NM, TX⟩ := x
      simp only at a0 a1 a2 a3 a4 a5 a6 a7 a8 hpx
      generalize bestO (fun x => x.2.next) p (l.take i) = o at *
      have HST := Lib.hid hst
      have HZI := Lib.hid hz
      have hi0 : (0 : Int) ≤ (i : Int) := by omega
      have hi1 : (i : Int) < (l.length : Int) := by omega
      clear hst hgx hz
      by_cases hk : K = 1
      · subst hk
        by_cases hv : V = valid
        · have hv := hv.symm
          subst hv
          by_cases hz : (bestX o).1 = 0
          · have J := I.later (belNew wr (.cells #[.int .i64 sq, .int .i64 1, .int .i64 valid, .int .i64 U, .int .i64 N, .int .i64 FL, .string US, .string NM, .string TX] 49))
            obtain ⟨u0, u1, u2, u3, u4, u5, u6, u7, u8, v0, v1, v2, v3, v4, v5, v6, v7, v8⟩ := J.out.nine
            have HJ := Lib.hid J
            clear I J
            have HE : Hid (bestO (fun x => x.2.next) p (l.take (i + 1)) = some (sq, ⟨1, valid, U, N, FL, US, NM, TX⟩)) := by rw [HST.out]; exact tell_yes (by rw [hpx]; exact decide_eq_true ⟨rfl, rfl⟩) (.inl (HZI.out hz))
            clear hpx
            go_wp2
            exact ⟨⟨i + 1, by omega, by simp, by rw [HE.out]; exact HJ.out.put (sq, ⟨1, valid, U, N, FL, US, NM, TX⟩)⟩, by first | omega | (simp [intOf]; omega)⟩
          · have hon : o ≠ none := fun e => hz (by rw [e]; rfl)
            by_cases hn : (bestX o).2.next < N
            · have J := I.later (belNew wr (.cells #[.int .i64 sq, .int .i64 1, .int .i64 valid, .int .i64 U, .int .i64 N, .int .i64 FL, .string US, .string NM, .string TX] 49))
              obtain ⟨u0, u1, u2, u3, u4, u5, u6, u7, u8, v0, v1, v2, v3, v4, v5, v6, v7, v8⟩ := J.out.nine
              have HJ := Lib.hid J
              clear I J
              have HE : Hid (bestO (fun x => x.2.next) p (l.take (i + 1)) = some (sq, ⟨1, valid, U, N, FL, US, NM, TX⟩)) := by rw [HST.out]; exact tell_yes (by rw [hpx]; exact decide_eq_true ⟨rfl, rfl⟩) (.inr (.inl hn))
              clear hpx
              go_wp2
              exact ⟨⟨i + 1, by omega, by simp, by rw [HE.out]; exact HJ.out.put (sq, ⟨1, valid, U, N, FL, US, NM, TX⟩)⟩, by first | omega | (simp [intOf]; omega)⟩
            · by_cases he : N = (bestX o).2.next
              · subst he
                by_cases hs : (bestX o).1 < sq
                · have J := I.later (belNew wr (.cells #[.int .i64 sq, .int .i64 1, .int .i64 valid, .int .i64 U, .int .i64 (bestX o).2.next, .int .i64 FL, .string US, .string NM, .string TX] 49))
                  obtain ⟨u0, u1, u2, u3, u4, u5, u6, u7, u8, v0, v1, v2, v3, v4, v5, v6, v7, v8⟩ := J.out.nine
                  have HJ := Lib.hid J
                  clear I J
                  have HE : Hid (bestO (fun x => x.2.next) p (l.take (i + 1)) = some (sq, ⟨1, valid, U, (bestX o).2.next, FL, US, NM, TX⟩)) := by rw [HST.out]; exact tell_yes (by rw [hpx]; exact decide_eq_true ⟨rfl, rfl⟩) (.inr (.inr ⟨rfl, hs⟩))
                  clear hpx
                  go_wp2
                  exact ⟨⟨i + 1, by omega, by simp, by rw [HE.out]; exact HJ.out.put (sq, ⟨1, valid, U, (bestX o).2.next, FL, US, NM, TX⟩)⟩, by first | omega | (simp [intOf]; omega)⟩
                · have J := I.later (belNew wr (.cells #[.int .i64 sq, .int .i64 1, .int .i64 valid, .int .i64 U, .int .i64 (bestX o).2.next, .int .i64 FL, .string US, .string NM, .string TX] 49))
                  obtain ⟨u0, u1, u2, u3, u4, u5, u6, u7, u8, v0, v1, v2, v3, v4, v5, v6, v7, v8⟩ := J.out.nine
                  have HJ := Lib.hid J
                  clear I J
                  have HE : Hid (bestO (fun x => x.2.next) p (l.take (i + 1)) = o) := by rw [HST.out]; exact tell_old (by rw [hpx]; exact decide_eq_true ⟨rfl, rfl⟩) hon (fun c => by rcases c with c | c; exact hn c; exact hs c.2)
                  clear hpx
                  go_wp2
                  exact ⟨⟨i + 1, by omega, by simp, by rw [HE.out]; exact HJ.out⟩, by first | omega | (simp [intOf]; omega)⟩
              · have J := I.later (belNew wr (.cells #[.int .i64 sq, .int .i64 1, .int .i64 valid, .int .i64 U, .int .i64 N, .int .i64 FL, .string US, .string NM, .string TX] 49))
                obtain ⟨u0, u1, u2, u3, u4, u5, u6, u7, u8, v0, v1, v2, v3, v4, v5, v6, v7, v8⟩ := J.out.nine
                have HJ := Lib.hid J
                clear I J
                have HE : Hid (bestO (fun x => x.2.next) p (l.take (i + 1)) = o) := by rw [HST.out]; exact tell_old (by rw [hpx]; exact decide_eq_true ⟨rfl, rfl⟩) hon (fun c => by rcases c with c | c; exact hn c; exact he c.1)
                clear hpx
                go_wp2
                exact ⟨⟨i + 1, by omega, by simp, by rw [HE.out]; exact HJ.out⟩, by first | omega | (simp [intOf]; omega)⟩
        · have J := I.later (belNew wr (.cells #[.int .i64 sq, .int .i64 1, .int .i64 V, .int .i64 U, .int .i64 N, .int .i64 FL, .string US, .string NM, .string TX] 49))
          obtain ⟨u0, u1, u2, u3, u4, u5, u6, u7, u8, v0, v1, v2, v3, v4, v5, v6, v7, v8⟩ := J.out.nine
          have HJ := Lib.hid J
          clear I J
          have HE : Hid (bestO (fun x => x.2.next) p (l.take (i + 1)) = o) := by rw [HST.out]; exact bestStep_no (by rw [hpx]; exact decide_eq_false (fun c => hv c.2))
          clear hpx
          go_wp2
          exact ⟨⟨i + 1, by omega, by simp, by rw [HE.out]; exact HJ.out⟩, by first | omega | (simp [intOf]; omega)⟩
      · have J := I.later (belNew wr (.cells #[.int .i64 sq, .int .i64 K, .int .i64 V, .int .i64 U, .int .i64 N, .int .i64 FL, .string US, .string NM, .string TX] 49))
        obtain ⟨u0, u1, u2, u3, u4, u5, u6, u7, u8, v0, v1, v2, v3, v4, v5, v6, v7, v8⟩ := J.out.nine
        have HJ := Lib.hid J
        clear I J
        have HE : Hid (bestO (fun x => x.2.next) p (l.take (i + 1)) = o) := by rw [HST.out]; exact bestStep_no (by rw [hpx]; exact decide_eq_false (fun c => hk c.1))
        clear hpx
        go_wp2
        exact ⟨⟨i + 1, by omega, by simp, by rw [HE.out]; exact HJ.out⟩, by first | omega | (simp [intOf]; omega)⟩
    · have hie : i = l.length := by omega
      subst hie
      obtain ⟨u0, u1, u2, u3, u4, u5, u6, u7, u8, v0, v1, v2, v3, v4, v5, v6, v7, v8⟩ := I.out.nine
      obtain ⟨y0, y1, y2, y3, y4, y5, y6, y7, y8, f0, f1, f2, f3, f4, f5, f6, f7, f8⟩ := I.res.nine
      have BB := Lib.hid I.bel
      clear I HZ
      generalize hoo : bestO (fun x => x.2.next) p (l.take l.length) = o at *
      have HO : Hid (tellO valid l = o) := HB.out
      clear hoo HB
      go_wp2
      refine bodyPost_ret (v := .agg #[.int .i64 (bestX o).1, .int .i64 (bestX o).2.kind, .int .i64 (bestX o).2.valid, .int .i64 (bestX o).2.uid, .int .i64 (bestX o).2.next, .int .i64 (bestX o).2.flags, .string (bestX o).2.user, .string (bestX o).2.name, .string (bestX o).2.text]) (by simp [results, Try.results33, go_sem, y0, y1, y2, y3, y4, y5, y6, y7, y8]) rfl ?_
      exact ⟨by rw [HO.out]; rfl, below_set9 BB.out (Nat.le_refl _) _ _ _ _ _ _ _ _ _⟩

end Go.Proofs.Ytgdkndlkapmhjaa

/- What records tell: the model's number of the next mail. -/
namespace Go.Proofs.Ytgdkndlkapmhjaa
open Go.RowKit

theorem mostOf_take {b : Int} {f : Itm → Int} {l : List Itm} {i : Nat} {x : Itm} (h : l[i]? = some x) : mostOf b f (l.take (i + 1)) = if mostOf b f (l.take i) < f x then f x else mostOf b f (l.take i) := by
  unfold mostOf
  rw [List.take_add_one, h, List.foldl_append]
  rfl

set_option maxRecDepth 100000 in
set_option maxHeartbeats 2000000 in
theorem specNext_any (l : List Itm) (v : Value) (valid : Int) (w : World) (h : Rows' itE w v l) (hl : l.length ≤ 1099511627776) (hok : ∀ x ∈ l, x.2.ok) :
    Calls Try.prog 34 #[v, .int .i64 valid] w fun e w' => e = .returned (.int .i64 (nextOf valid l)) ∧ Below w.heap.size w w' := by
  obtain ⟨ad, cap, rfl, hrow⟩ : ∃ (ad : Option Addr) (cap : Nat), v = .slice ad l.length cap ∧ ∀ X, Below w.heap.size w X → ∀ i x, l[i]? = some x → ∃ g off, ad = some ⟨g, off, none⟩ ∧ X.cell? ⟨g, off + i * 9, none⟩ = some (.int .i64 x.1) ∧ X.cell? ⟨g, off + i * 9 + 1, none⟩ = some (.int .i64 x.2.kind) ∧ X.cell? ⟨g, off + i * 9 + 2, none⟩ = some (.int .i64 x.2.valid) ∧ X.cell? ⟨g, off + i * 9 + 3, none⟩ = some (.int .i64 x.2.uid) ∧ X.cell? ⟨g, off + i * 9 + 4, none⟩ = some (.int .i64 x.2.next) ∧ X.cell? ⟨g, off + i * 9 + 5, none⟩ = some (.int .i64 x.2.flags) ∧ X.cell? ⟨g, off + i * 9 + 6, none⟩ = some (.string x.2.user) ∧ X.cell? ⟨g, off + i * 9 + 7, none⟩ = some (.string x.2.name) ∧ X.cell? ⟨g, off + i * 9 + 8, none⟩ = some (.string x.2.text) := by
    rcases h.ways with ⟨rfl, a, c, rfl⟩ | ⟨hne, g, off, c, rfl, hc, hg, hcl⟩
    · exact ⟨a, c, rfl, fun X _ i x hi => by cases hi⟩
    · exact ⟨_, c, rfl, fun X hb i x hi => ⟨g, off, rfl, it_cells hcl hg hb i x hi⟩⟩
  have HR := Lib.hid hrow
  have HOK := Lib.hid hok
  have HM : Hid (∀ i, 1 ≤ mostOf 1 (nextK valid) (l.take i)) := fun i => (mostFold (nextK valid) (l.take i) 1).1
  have HB : Hid (nextOf valid l = mostOf 1 (nextK valid) (l.take l.length)) := by rw [List.take_length]; rfl
  clear h hrow hok
  go_enter Try.func34, Try.ntmps34
  go_wp2
  go_loopw [5, 6] (fun nv iv wr => ∃ i : Nat, i ≤ l.length ∧ iv = .int .i64 (i : Int) ∧ nv = .int .i64 (mostOf 1 (nextK valid) (l.take i)) ∧ Below w.heap.size w wr) (fun _ iv _ => l.length - (intOf iv).toNat)
  case atStart => exact ⟨0, by omega, rfl, rfl, Below.refl _ _⟩
  case round =>
    obtain ⟨i, hi, rfl, rfl, hb⟩ := hrel
    by_cases hlt : i < l.length
    · have hgx : l[i]? = some l[i] := List.getElem?_eq_getElem hlt
      have hst := mostOf_take (b := 1) (f := nextK valid) hgx
      have hm := HM.out i
      have hsm := Rc.ok_small (HOK.out l[i] (List.getElem_mem hlt))
      obtain ⟨ga, oa, rfl, a0, a1, a2, a3, a4, a5, a6, a7, a8⟩ := HR.out _ hb i _ hgx
      generalize l[i] = x at *
      obtain ⟨sq, K, V, U, N, FL, US, NM, TX⟩ := x
      simp only at a0 a1 a2 a3 a4 a5 a6 a7 a8 hsm
      obtain ⟨_, _, hU, _, _⟩ := hsm
      generalize mostOf 1 (nextK valid) (l.take i) = n at *
      have HST := Lib.hid hst
      have hi0 : (0 : Int) ≤ (i : Int) := by omega
      have hi1 : (i : Int) < (l.length : Int) := by omega
      clear hst hgx
      by_cases hv : V = valid
      · have hv := hv.symm
        subst hv
        by_cases k1 : K = 1
        · subst k1
          by_cases hn : n < N
          · have BJ := Lib.hid (hb.trans ((belNew wr (.cells #[.int .i64 1, .int .i64 valid, .int .i64 U, .int .i64 N, .int .i64 FL, .string US, .string NM, .string TX] 47)).mono hb.size))
            clear hb
            have HE : Hid (mostOf 1 (nextK valid) (l.take (i + 1)) = N) := by rw [HST.out]; rw [show nextK valid (sq, ⟨1, valid, U, N, FL, US, NM, TX⟩) = N from by simp [nextK]]; exact if_pos hn
            go_wp2
            exact ⟨⟨i + 1, by omega, by simp, by rw [HE.out], BJ.out⟩, by first | omega | (simp [intOf]; omega)⟩
          · have BJ := Lib.hid (hb.trans ((belNew wr (.cells #[.int .i64 1, .int .i64 valid, .int .i64 U, .int .i64 N, .int .i64 FL, .string US, .string NM, .string TX] 47)).mono hb.size))
            clear hb
            have HE : Hid (mostOf 1 (nextK valid) (l.take (i + 1)) = n) := by rw [HST.out]; rw [show nextK valid (sq, ⟨1, valid, U, N, FL, US, NM, TX⟩) = N from by simp [nextK]]; exact if_neg hn
            go_wp2
            exact ⟨⟨i + 1, by omega, by simp, by rw [HE.out], BJ.out⟩, by first | omega | (simp [intOf]; omega)⟩
        · by_cases k3 : K = 3
          · subst k3
            by_cases hn : n < U + 1
            · have BJ := Lib.hid (hb.trans ((belNew wr (.cells #[.int .i64 3, .int .i64 valid, .int .i64 U, .int .i64 N, .int .i64 FL, .string US, .string NM, .string TX] 47)).mono hb.size))
              clear hb
              have HE : Hid (mostOf 1 (nextK valid) (l.take (i + 1)) = U + 1) := by rw [HST.out]; rw [show nextK valid (sq, ⟨3, valid, U, N, FL, US, NM, TX⟩) = U + 1 from by simp [nextK]]; exact if_pos hn
              go_wp2
              exact ⟨⟨i + 1, by omega, by simp, by rw [HE.out], BJ.out⟩, by first | omega | (simp [intOf]; omega)⟩
            · have BJ := Lib.hid (hb.trans ((belNew wr (.cells #[.int .i64 3, .int .i64 valid, .int .i64 U, .int .i64 N, .int .i64 FL, .string US, .string NM, .string TX] 47)).mono hb.size))
              clear hb
              have HE : Hid (mostOf 1 (nextK valid) (l.take (i + 1)) = n) := by rw [HST.out]; rw [show nextK valid (sq, ⟨3, valid, U, N, FL, US, NM, TX⟩) = U + 1 from by simp [nextK]]; exact if_neg hn
              go_wp2
              exact ⟨⟨i + 1, by omega, by simp, by rw [HE.out], BJ.out⟩, by first | omega | (simp [intOf]; omega)⟩
          · by_cases k5 : K = 5
            · subst k5
              by_cases hn : n < U + 1
              · have BJ := Lib.hid (hb.trans ((belNew wr (.cells #[.int .i64 5, .int .i64 valid, .int .i64 U, .int .i64 N, .int .i64 FL, .string US, .string NM, .string TX] 47)).mono hb.size))
                clear hb
                have HE : Hid (mostOf 1 (nextK valid) (l.take (i + 1)) = U + 1) := by rw [HST.out]; rw [show nextK valid (sq, ⟨5, valid, U, N, FL, US, NM, TX⟩) = U + 1 from by simp [nextK]]; exact if_pos hn
                go_wp2
                exact ⟨⟨i + 1, by omega, by simp, by rw [HE.out], BJ.out⟩, by first | omega | (simp [intOf]; omega)⟩
              · have BJ := Lib.hid (hb.trans ((belNew wr (.cells #[.int .i64 5, .int .i64 valid, .int .i64 U, .int .i64 N, .int .i64 FL, .string US, .string NM, .string TX] 47)).mono hb.size))
                clear hb
                have HE : Hid (mostOf 1 (nextK valid) (l.take (i + 1)) = n) := by rw [HST.out]; rw [show nextK valid (sq, ⟨5, valid, U, N, FL, US, NM, TX⟩) = U + 1 from by simp [nextK]]; exact if_neg hn
                go_wp2
                exact ⟨⟨i + 1, by omega, by simp, by rw [HE.out], BJ.out⟩, by first | omega | (simp [intOf]; omega)⟩
            · have BJ := Lib.hid (hb.trans ((belNew wr (.cells #[.int .i64 K, .int .i64 valid, .int .i64 U, .int .i64 N, .int .i64 FL, .string US, .string NM, .string TX] 47)).mono hb.size))
              clear hb
              have HE : Hid (mostOf 1 (nextK valid) (l.take (i + 1)) = n) := by rw [HST.out]; rw [show nextK valid (sq, ⟨K, valid, U, N, FL, US, NM, TX⟩) = 0 from by simp [nextK, k1, k3, k5]]; exact if_neg (by omega)
              go_wp2
              exact ⟨⟨i + 1, by omega, by simp, by rw [HE.out], BJ.out⟩, by first | omega | (simp [intOf]; omega)⟩
      · have BJ := Lib.hid (hb.trans ((belNew wr (.cells #[.int .i64 K, .int .i64 V, .int .i64 U, .int .i64 N, .int .i64 FL, .string US, .string NM, .string TX] 47)).mono hb.size))
        clear hb
        have HE : Hid (mostOf 1 (nextK valid) (l.take (i + 1)) = n) := by rw [HST.out]; rw [show nextK valid (sq, ⟨K, V, U, N, FL, US, NM, TX⟩) = 0 from by simp [nextK, hv]]; exact if_neg (by omega)
        go_wp2
        exact ⟨⟨i + 1, by omega, by simp, by rw [HE.out], BJ.out⟩, by first | omega | (simp [intOf]; omega)⟩
    · have hie : i = l.length := by omega
      subst hie
      go_wp2
      go_ret
      exact ⟨by rw [HB.out]; rfl, hb⟩

end Go.Proofs.Ytgdkndlkapmhjaa
