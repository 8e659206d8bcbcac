/- Texts of our own, joined. -/
import Derived.Test.YtahebgceoidebaaGreatJk
import Derived.Test.YtahebgceoidebaaGreatJi
import Derived.Test.YtahebgceoidebaaGreatJp
import Derived.Test.YtahebgceoidebaaGreatJm
import Derived.Deep.RegionHeld3
import Derived.Deep.QuietTactic
import Derived.BigQuiet
import Derived.WalkSmall
import Derived.Laws.EntriesVeiled
/- Shrunk of the model. -/
namespace Go.Proofs.YtahebgceoidebaaGreat
open Go.RowKit

set_option maxRecDepth 100000 in
set_option maxHeartbeats 8000000 in
theorem specShrunk_any (l : List Itm) (d : List Bool) (seq : Int) (v vd : Value) (w : World) (h : Rows' itE w v l) (hd : Rows' boE w vd d) (hl : l.length ≤ 1048576) (hz : ∀ x ∈ l, x.2.user.size ≤ 1048576 ∧ x.2.name.size ≤ 1048576 ∧ x.2.text.size ≤ 1048576) :
    Calls Tryz.prog 15 #[v, vd, .int .i64 seq] w fun e w' => ∃ v', e = .returned v' ∧ RBuf itE w.heap.size w w' v' (shr l d seq) := by
  have HL : Hid (∀ x, Below w.heap.size w x → Rows' itE x v l) := fun x hx => h.later hx
  have HB : Hid (∀ x, Below w.heap.size w x → Rows' boE x vd d) := fun x hx => hd.later hx
  have HNA := Lib.hid (specNeededAll_any l v w h hl hz)
  have HWO := Lib.hid (fun g va vb x h1 h2 => specWithout_any l g va vb x h1 h2 hl)
  have HNX := Lib.hid (fun g va vb x h1 h2 => specNextsOf_any l g va vb x h1 h2 hl hz)
  have HML := Lib.hid (fun g : List Bool => (show (nxs (stateL (wo l g)) (stateL l)).length ≤ 200 by have h1 := nxs_len (stateL (wo l g)) (stateL l); have h2 := (stateL_small l).1; omega))
  have HWL := Lib.hid (fun g : List Bool => wo_len l g)
  have HNL := Lib.hid (needL_len l)
  obtain ⟨ad, cap, rfl, _⟩ := h.items
  obtain ⟨ab, cab, rfl, hbo⟩ := hd.bools
  have HBR := Lib.hid hbo
  clear h hd hz hbo
  obtain ⟨n, hn⟩ : ∃ n, l.length = n := ⟨_, rfl⟩
  obtain ⟨m, hm⟩ : ∃ m, d.length = m := ⟨_, rfl⟩
  have HN := Lib.hid hn
  have HM := Lib.hid hm
  rw [hn] at hl HL HNA HWL HNL
  rw [hm] at HB
  rw [hn, hm]
  clear hn hm
  have HSH : Hid (shr l d seq = wo l (shP d (needL l) n) ++ moreT (nxs (stateL (wo l (shP d (needL l) n))) (stateL l)) seq (nxs (stateL (wo l (shP d (needL l) n))) (stateL l)).length) := by show _ = _; rw [← HN.out]; rfl
  generalize shr l d seq = SH at HSH ⊢
  generalize needL l = nd at HNA HSH HNL
  go_enter Tryz.func15, Tryz.ntmps15
  go_wp2_with fail
  refine HNA.out.mono ?_
  rintro e w1 ⟨v7, rfl, R7⟩
  have b1 := R7.bel
  obtain ⟨a7, c7, rfl⟩ := R7.form
  rw [HNL.out] at R7 ⊢
  obtain ⟨ad7, cap7, e7, hr7⟩ := R7.rows.bools
  simp only [Value.slice.injEq] at e7
  have HR7 : Hid (BoRow w1 a7 nd) := by rw [e7.1]; exact hr7
  clear e7 hr7 R7 HNA
  go_wp2_with (at_make; refine wpList_make_rows rfl _ _ boE rfl .i64 .i64 _ _ n rfl rfl rfl rfl (by show 2 * n ≤ _; omega) ?_; intro w2 hr2 hs2)
  obtain ⟨gB, hgB⟩ : ∃ gB, w1.heap.size = gB := ⟨_, rfl⟩
  have I0 : RBuf boE w1.heap.size w1 w2 (.slice (some ⟨w1.heap.size, 0, none⟩) n n) (goQ d nd n 0) := hr2
  rw [hgB] at I0
  try rw [hgB]
  have HGB := Lib.hid hgB
  clear hr2 hgB hs2
  have HB1 := Lib.hid b1
  clear b1
  go_wp2
  go_loopw [9] (fun iv wr => ∃ i : Nat, i ≤ n ∧ iv = .int .i64 (i : Int) ∧ RBuf boE gB w1 wr (.slice (some ⟨gB, 0, none⟩) n n) (goQ d nd n i)) (fun iv _ => n - (intOf iv).toNat)
  case atStart => exact ⟨0, by omega, rfl, I0⟩
  case round =>
    clear I0
    obtain ⟨i, hi, rfl, I⟩ := hrel
    have bq : Below w1.heap.size w1 wr := by rw [HGB.out]; exact I.bel
    have bW : Below w.heap.size w wr := HB1.out.trans (bq.mono HB1.out.size)
    by_cases hlt : i < n
    · have hql := goQ_len (d := d) (nd := nd) (n := n) (i := i) (by omega)
      have hqa := goQ_at (d := d) (nd := nd) (n := n) (i := i) hlt
      have HQS := Lib.hid (goQ_set (d := d) (nd := nd) (n := n) (i := i) hlt)
      obtain ⟨us, hus⟩ : ∃ us, goQ d nd n i = us := ⟨_, rfl⟩
      rw [hus] at I hql hqa HQS
      clear hus
      have HCB : Hid (wr.cell? ⟨gB, i, none⟩ = some (.bool false) ∧ wr.frozen? ⟨gB, i, none⟩ = false ∧ ∀ b : Bool, RBuf boE gB w1 (wr.setCell ⟨gB, i, none⟩ (.bool b)) (.slice (some ⟨gB, 0, none⟩) n n) (us.set i b)) := by
        rw [← hql] at I
        have h1 := I.cell rfl i _ hqa 0 _ rfl
        rw [show boE.sz = 1 from rfl, Nat.mul_one, Nat.add_zero] at h1
        refine ⟨h1, I.loose i, fun b => ?_⟩
        have h2 := I.stored i _ b hqa 0 (by decide) (.bool b) rfl
        rw [show boE.sz = 1 from rfl, Nat.mul_one, Nat.add_zero, hql] at h2
        exact h2
      clear hql hqa
      obtain ⟨q, hq⟩ : ∃ q, nd[i]? = some q := ⟨_, List.getElem?_eq_getElem (by rw [HNL.out]; exact hlt)⟩
      obtain ⟨g7, o7, rfl, p7⟩ := HR7.out _ bq i q hq
      obtain ⟨cB, lB, hst⟩ := HCB.out
      have hi0 : (0 : Int) ≤ (i : Int) := by omega
      have hi1 : (i : Int) < (n : Int) := by omega
      have HNQ : Hid (decide (nd[i]? = some true) = q) := by show _ = _; rw [hq]; cases q <;> rfl
      rw [HNQ.out] at HQS
      clear HCB hq I HNQ
      by_cases hid : i < m
      · obtain ⟨b, hb⟩ : ∃ b, d[i]? = some b := ⟨_, List.getElem?_eq_getElem (by rw [HM.out]; exact hid)⟩
        obtain ⟨gd, od, rfl, pd⟩ := HBR.out _ bW i b hb
        have hi2 : (i : Int) < (m : Int) := by omega
        have HBQ : Hid (decide (d[i]? = some true) = b) := by show _ = _; rw [hb]; cases b <;> rfl
        rw [HBQ.out] at HQS
        clear hb HBQ
        have hst2 := hst (b && !q)
        rw [HQS.out] at hst2
        have HST := Lib.hid hst2
        clear hst hst2 HQS
        cases b with
        | false =>
          go_wp2
          exact ⟨⟨i + 1, by omega, by simp, HST.out⟩, by first | omega | (simp [intOf]; omega)⟩
        | true =>
          cases q with
          | false =>
            go_wp2
            exact ⟨⟨i + 1, by omega, by simp, HST.out⟩, by first | omega | (simp [intOf]; omega)⟩
          | true =>
            go_wp2
            exact ⟨⟨i + 1, by omega, by simp, HST.out⟩, by first | omega | (simp [intOf]; omega)⟩
      · have hi2 : ¬ (i : Int) < (m : Int) := by omega
        have HBQ : Hid (decide (d[i]? = some true) = false) := by show _ = _; rw [List.getElem?_eq_none (by rw [HM.out]; omega)]; rfl
        rw [HBQ.out, Bool.false_and] at HQS
        have hst2 := hst false
        rw [HQS.out] at hst2
        have HST := Lib.hid hst2
        clear hst hst2 HQS HBQ
        go_wp2
        exact ⟨⟨i + 1, by omega, by simp, HST.out⟩, by first | omega | (simp [intOf]; omega)⟩
    · have hin : i = n := by omega
      have hg : goQ d nd n i = shP d nd n := by unfold goQ; rw [hin, Nat.sub_self, List.replicate_zero, List.append_nil]
      rw [hg] at I
      clear hg hin
      obtain ⟨wB, hwB⟩ : ∃ wB, wB = wr := ⟨_, rfl⟩
      subst hwB
      generalize shP d nd n = gs at I HSH
      have I' := I.here
      clear I
      go_wp2_with fail
      refine (HWO.out gs _ _ _ (HL.out _ bW) I'.rows).mono ?_
      rintro e w4 ⟨v10, rfl, R10⟩
      have b4 := bW.trans (R10.bel.mono bW.size)
      replace I' := (I'.later R10.bel).here
      obtain ⟨a10, c10, rfl⟩ := R10.form
      go_wp2_with fail
      refine (HNX.out gs _ _ _ (HL.out _ b4) I'.rows).mono ?_
      rintro e w5 ⟨v11, rfl, R11⟩
      have hml := HML.out gs
      have hwl := HWL.out gs
      generalize nxs (stateL (wo l gs)) (stateL l) = M at R11 HSH hml
      obtain ⟨a11, c11, rfl⟩ := R11.form
      have OM : Hid (∀ k, (Value.slice a11 M.length c11).ownBlock = some k → w4.heap.size ≤ k ∧ k < w5.heap.size) := fun k hk => R11.own.lt k hk
      have OO : Hid (∀ k, (Value.slice a10 (wo l gs).length c10).ownBlock = some k → k < w4.heap.size ∨ w5.heap.size ≤ k) := fun k hk => .inl (R10.own.lt k hk).2
      have J0 := R10.later R11.bel
      replace R11 := R11.here
      generalize hWO : wo l gs = W at *
      have Q0 : Hid (W = W ++ moreT M seq 0) := by show _ = _; rw [show moreT M seq 0 = [] from rfl, List.append_nil]
      replace J0 : RBuf itE wB.heap.size wB w5 (.slice a10 W.length c10) (W ++ moreT M seq 0) := by rw [← Q0.out]; exact J0
      have HBW := Lib.hid bW
      clear hWO I' R10 b4 HWO HNX HML HWL HL HB bq bW
      obtain ⟨p, hp⟩ : ∃ p, M.length = p := ⟨_, rfl⟩
      have HP := Lib.hid hp
      rw [hp] at hml R11 OM
      rw [hp]
      clear hp
      go_wp2
      go_loopw [10, 12] (fun v iv wq => ∃ i : Nat, i ≤ p ∧ iv = .int .i64 (i : Int) ∧ RBuf itE wB.heap.size wB wq v (W ++ moreT M seq i) ∧ RBuf rcE w4.heap.size wq wq (.slice a11 p c11) M ∧ (∀ k, v.ownBlock = some k → k < w4.heap.size ∨ w5.heap.size ≤ k) ∧ w5.heap.size ≤ wq.heap.size) (fun _ iv _ => p - (intOf iv).toNat)
      case atStart => exact ⟨0, by omega, rfl, J0, R11, OO.out, Nat.le_refl _⟩
      case round =>
        clear J0 R11 OO
        obtain ⟨k, hk, rfl, J, R11, ho, hsz⟩ := hrel
        have HO := Lib.hid ho
        have HSZ := Lib.hid hsz
        clear ho hsz
        by_cases hlk : k < p
        · obtain ⟨r, hgr⟩ : ∃ r, M[k]? = some r := ⟨_, List.getElem?_eq_getElem (by rw [HP.out]; exact hlk)⟩
          obtain ⟨ad', cap', e', hrow⟩ := R11.rows.recs
          simp only [Value.slice.injEq] at e'
          rw [← e'.1] at hrow
          obtain ⟨gr, og, rfl, q0, q1, q2, q3, q4, q5, q6, q7⟩ := hrow _ (Below.refl _ _) k r hgr
          have HST := Lib.hid (moreT_step (seq := seq) hgr)
          have hll : (W ++ moreT M seq k).length ≤ 2097152 := by rw [List.length_append, moreT_len k (by rw [HP.out]; exact hk)]; omega
          clear hrow e' hgr
          obtain ⟨sq, hsq⟩ : ∃ sq, IntKind.i64.wrap (seq + (k : Int)) = sq := ⟨_, rfl⟩
          rw [hsq] at HST
          obtain ⟨K, V, U, N, FL, US, NM, TX⟩ := r
          simp only at q0 q1 q2 q3 q4 q5 q6 q7
          have hk0 : (0 : Int) ≤ (k : Int) := by omega
          have hk1 : (k : Int) < (p : Int) := by omega
          have HR6 := Lib.hid (J.alloc (.cells #[.int .i64 sq, .int .i64 K, .int .i64 V, .int .i64 U, .int .i64 N, .int .i64 FL, .string US, .string NM, .string TX] 49))
          have HL6 := Lib.hid (RBuf.lit1 itE wr (sq, ⟨K, V, U, N, FL, US, NM, TX⟩))
          have HM6 := Lib.hid ((R11.later (belNew wr (.cells #[.int .i64 sq, .int .i64 K, .int .i64 V, .int .i64 U, .int .i64 N, .int .i64 FL, .string US, .string NM, .string TX] 49))).here)
          have hs6 : w5.heap.size ≤ (wr.alloc (.cells #[.int .i64 sq, .int .i64 K, .int .i64 V, .int .i64 U, .int .i64 N, .int .i64 FL, .string US, .string NM, .string TX] 49)).heap.size := by have := HSZ.out; simp; omega
          have HS6 := Lib.hid hs6
          clear J R11 hs6
          obtain ⟨us, hus⟩ : ∃ us, W ++ moreT M seq k = us := ⟨_, rfl⟩
          rw [hus] at HR6 hll
          have HUS := Lib.hid hus
          clear hus
          go_wp2_with (at_builtin; refine wpList_append_rows rfl _ _ itE rfl wB.heap.size _ _ rfl HR6.out.here wr.heap.size _ [(sq, ⟨K, V, U, N, FL, US, NM, TX⟩)] rfl HL6.out (by show _ * 97 ≤ _; simp only [List.length_cons, List.length_nil]; omega) ?_; intro v6 w6 r6 g6 at6)
          exact ⟨⟨k + 1, by omega, by simp, by rw [HST.out, ← List.append_assoc, HUS.out]; exact ⟨r6.own, HR6.out.bel.grown g6 HR6.out.le (fun q hq => (HR6.out.own.lt q hq).1), r6.le⟩, HM6.out.shift g6 (by
            cases hv : (Value.slice (some ⟨gr, og, none⟩) p c11).ownBlock with
            | none => exact .inl rfl
            | some q => exact .inr (fun e => by
                have h1 := OM.out q hv
                rcases HO.out q e.symm with h2 | h2 <;> omega)), fun q hq => by
            rcases at6 with e | e
            · exact HO.out q (e ▸ hq)
            · rw [e] at hq; cases hq; exact .inr HS6.out, Nat.le_trans HS6.out g6.size⟩, by first | omega | (simp [intOf]; omega)⟩
        · have hkp : k = p := by omega
          subst hkp
          have HE : Hid (SH = W ++ moreT M seq k) := by show _ = _; rw [HSH.out, HP.out]
          clear R11
          go_wp2
          go_ret
          refine ⟨_, rfl, ?_⟩
          rw [HE.out]
          exact J.down (HBW.out.trans (J.bel.mono HBW.out.size)) HBW.out.size

end Go.Proofs.YtahebgceoidebaaGreat

/- The program's tellers: the place of who tells each subject; and the list of closures. -/
namespace Go.Proofs.YtahebgceoidebaaGreat
open Go.RowKit

set_option maxRecDepth 100000 in
set_option maxHeartbeats 1000000 in
theorem subjectOf_any (r : Rc) (w : World) : Calls Tryz.prog 43 #[r.v] w fun e w' => e = .returned (.agg #[.int .i64 r.kind, .int .i64 r.valid, .int .i64 r.uid]) ∧ Below w.heap.size w w' := by
  have X1 := (Box.new w r.cs 47).later (belNew _ (.cells #[.int .i64 0, .int .i64 0, .int .i64 0] 77))
  have X2 : Box ((w.alloc (.cells r.cs 47)).alloc (.cells #[.int .i64 0, .int .i64 0, .int .i64 0] 77)) (w.heap.size + 1) #[.int .i64 0, .int .i64 0, .int .i64 0] 77 := by
    have := Box.new (w.alloc (.cells r.cs 47)) #[.int .i64 0, .int .i64 0, .int .i64 0] 77
    rwa [show (w.alloc (.cells r.cs 47)).heap.size = w.heap.size + 1 from by simp] at this
  have b1 : Below w.heap.size w ((w.alloc (.cells r.cs 47)).alloc (.cells #[.int .i64 0, .int .i64 0, .int .i64 0] 77)) := ((Below.refl _ _).alloc (Nat.le_refl _) _).alloc (by simp) _
  obtain ⟨x0, x1, x2, _⟩ := X1.rec
  obtain ⟨K, V, U, N, FL, US, NM, TX⟩ := r
  unfold Rc.v
  unfold Rc.cs at *
  simp only at *
  clear X1
  go_enter Tryz.func43, Tryz.ntmps43
  go_upto_region 1 with fail
  generalize (w.alloc (.cells #[.int .i64 K, .int .i64 V, .int .i64 U, .int .i64 N, .int .i64 FL, .string US, .string NM, .string TX] 47)).alloc (.cells #[.int .i64 0, .int .i64 0, .int .i64 0] 77) = w1 at x0 x1 x2 X2 b1 ⊢
  obtain ⟨y0, y1, y2, f0, f1, f2⟩ := X2.three
  have X3 : Box (((w1.setCell ⟨w.heap.size + 1, 0, none⟩ (.int .i64 K)).setCell ⟨w.heap.size + 1, 1, none⟩ (.int .i64 V)).setCell ⟨w.heap.size + 1, 2, none⟩ (.int .i64 U)) (w.heap.size + 1) #[.int .i64 K, .int .i64 V, .int .i64 U] 77 := X2.set3 (.int .i64 K) (.int .i64 V) (.int .i64 U)
  obtain ⟨z0, z1, z2, _⟩ := X3.three
  have bE := Lib.hid (below_set3 b1 (show w.heap.size ≤ w.heap.size + 1 by omega) (.int .i64 K) (.int .i64 V) (.int .i64 U))
  clear X2 X3
  go_wp2
  refine bodyPost_ret (v := .agg #[.int .i64 K, .int .i64 V, .int .i64 U]) (by simp [results, Tryz.results43, go_sem, z0, z1, z2]) rfl ⟨rfl, bE.out⟩

set_option maxRecDepth 100000 in
set_option maxHeartbeats 8000000 in
theorem tellerPlaces_any (l : List Itm) (v : Value) (w : World) (h : Rows' itE w v l) (hok : itemsOk l) :
    Calls Tryz.prog 41 #[v] w fun e w' => ∃ gM, e = .returned (.map (some gM)) ∧ w.heap.size ≤ gM ∧ MapIs sjK inN w' gM l.length (telP l l.length) ∧ Below w.heap.size w w' := by
  obtain ⟨ad, cap, rfl, hrow⟩ := h.items
  have HR := Lib.hid hrow
  have HOK := Lib.hid hok
  have HTI := Lib.hid (fun i hi => telI l i hi)
  have hl : l.length ≤ 200 := hok.2.2
  clear h hrow hok
  obtain ⟨n, hn⟩ : ∃ n, l.length = n := ⟨_, rfl⟩
  rw [hn] at hl HTI ⊢
  have HN := Lib.hid hn
  clear hn
  have M0 := MapIs.made sjK inN w
  have b1 : Below w.heap.size w (w.alloc (.map #[] 0)) := (Below.refl _ _).alloc (Nat.le_refl _) _
  have hmm := @run_makeMap Tryz.prog
  go_enter Tryz.func41, Tryz.ntmps41
  go_wp2
  clear hmm
  generalize w.alloc (.map #[] 0) = w1 at M0 b1 ⊢
  obtain ⟨gM, hgM⟩ : ∃ gM, w.heap.size = gM := ⟨_, rfl⟩
  rw [hgM] at M0
  rw [hgM]
  have HGM : Hid (w.heap.size ≤ gM) := by show _ ≤ _; omega
  clear hgM
  go_loopw [12] (fun iv wr => ∃ i : Nat, i ≤ n ∧ iv = .int .i64 (i : Int) ∧ MapIs sjK inN wr gM i (telP l i) ∧ Below w.heap.size w wr) (fun iv _ => n - (intOf iv).toNat)
  case atStart => exact ⟨0, by omega, rfl, M0, b1⟩
  case round =>
    clear M0 b1
    obtain ⟨i, hi, rfl, MM, bW⟩ := hrel
    by_cases hlt : i < n
    · obtain ⟨x, hgx⟩ : ∃ x, l[i]? = some x := ⟨_, List.getElem?_eq_getElem (by rw [HN.out]; exact hlt)⟩
      obtain ⟨gp, op, rfl, p0, p1, p2, p3, p4, p5, p6, p7, p8⟩ := HR.out _ bW i _ hgx
      have HRW : Hid (∀ X, Below w.heap.size w X → ∀ (j : Nat) (y : Itm), l[j]? = some y → X.cell? ⟨gp, op + j * 9, none⟩ = some (.int .i64 y.1) ∧ X.cell? ⟨gp, op + j * 9 + 1, none⟩ = some (.int .i64 y.2.kind) ∧ X.cell? ⟨gp, op + j * 9 + 2, none⟩ = some (.int .i64 y.2.valid) ∧ X.cell? ⟨gp, op + j * 9 + 3, none⟩ = some (.int .i64 y.2.uid) ∧ X.cell? ⟨gp, op + j * 9 + 4, none⟩ = some (.int .i64 y.2.next) ∧ X.cell? ⟨gp, op + j * 9 + 5, none⟩ = some (.int .i64 y.2.flags) ∧ X.cell? ⟨gp, op + j * 9 + 6, none⟩ = some (.string y.2.user) ∧ X.cell? ⟨gp, op + j * 9 + 7, none⟩ = some (.string y.2.name) ∧ X.cell? ⟨gp, op + j * 9 + 8, none⟩ = some (.string y.2.text)) := fun X hX j y hy => by
        obtain ⟨g', o', e, q⟩ := HR.out X hX j y hy
        cases e
        exact q
      have hxo := (HOK.out.1 x (List.mem_of_getElem? hgx)).2
      have HKO : Hid (sjK.ok (sjOf x)) := sj_ok (by have := hxo.1; omega) (by have := hxo.2.1; omega) (by
        have h4 := hxo.2.2.2.1
        by_cases c : 3 ≤ x.2.kind
        · rw [if_pos c] at h4; omega
        · rw [if_neg c] at h4; omega)
      have HPU := Lib.hid (fun h => telP_put hgx h)
      have HKE := Lib.hid (fun h => telP_keep hgx h)
      have HTS := Lib.hid (HTI.out i hi (sjOf x))
      have HBN := Lib.hid (fun y X => byNextAndSeq_any x y X)
      have HNP := Lib.hid (fun y => nsC_pos x y)
      have HSO := Lib.hid (fun X => subjectOf_any x.2 X)
      clear hgx hxo
      generalize telP l i = f at *
      obtain ⟨sq, K, V, U, N, FL, US, NM, TX⟩ := x
      unfold sjOf at HKO HPU HKE HTS
      unfold Rc.v at HSO
      simp only at p0 p1 p2 p3 p4 p5 p6 p7 p8 HKO HPU HKE HTS HSO
      have hi0 : (0 : Int) ≤ (i : Int) := by omega
      have hi1 : (i : Int) < (n : Int) := by omega
      have X5 := Box.new wr #[.int .i64 sq, .int .i64 K, .int .i64 V, .int .i64 U, .int .i64 N, .int .i64 FL, .string US, .string NM, .string TX] 49
      have k5 := belNew wr (.cells #[.int .i64 sq, .int .i64 K, .int .i64 V, .int .i64 U, .int .i64 N, .int .i64 FL, .string US, .string NM, .string TX] 49)
      have b5 := bW.trans (k5.mono bW.size)
      replace MM := MM.later k5
      clear k5 bW
      go_upto_region 5 with fail
      clear p0 p1 p2 p3 p4 p5 p6 p7 p8
      generalize wr.alloc (.cells #[.int .i64 sq, .int .i64 K, .int .i64 V, .int .i64 U, .int .i64 N, .int .i64 FL, .string US, .string NM, .string TX] 49) = w5 at X5 b5 MM ⊢
      generalize wr.heap.size = g5 at X5 ⊢
      obtain ⟨q0, q1, q2, q3, q4, q5, q6, q7, q8, _⟩ := X5.nine
      go_wp2_with fail
      clear q0 q1 q2 q3 q4 q5 q6 q7 q8
      refine (HSO.out _).mono ?_
      rintro e w6 ⟨rfl, k6⟩
      have b6 := b5.trans (k6.mono b5.size)
      have X7 := Box.new w6 #[.int .i64 K, .int .i64 V, .int .i64 U] 77
      have k7 := belNew w6 (.cells #[.int .i64 K, .int .i64 V, .int .i64 U] 77)
      have b7 := b6.trans (k7.mono b6.size)
      replace MM := (MM.later k6).later k7
      replace X5 := (X5.later k6).later k7
      clear k6 k7 b5 b6
      go_upto_region 6 with fail
      generalize w6.alloc (.cells #[.int .i64 K, .int .i64 V, .int .i64 U] 77) = w7 at X5 X7 MM b7 ⊢
      generalize w6.heap.size = g6 at X7 ⊢
      have H7 : Hid (∀ X, Below w7.heap.size w7 X → (X.cell? ⟨g5, 0, none⟩ = some (.int .i64 sq) ∧ X.cell? ⟨g5, 1, none⟩ = some (.int .i64 K) ∧ X.cell? ⟨g5, 2, none⟩ = some (.int .i64 V) ∧ X.cell? ⟨g5, 3, none⟩ = some (.int .i64 U) ∧ X.cell? ⟨g5, 4, none⟩ = some (.int .i64 N) ∧ X.cell? ⟨g5, 5, none⟩ = some (.int .i64 FL) ∧ X.cell? ⟨g5, 6, none⟩ = some (.string US) ∧ X.cell? ⟨g5, 7, none⟩ = some (.string NM) ∧ X.cell? ⟨g5, 8, none⟩ = some (.string TX)) ∧ (X.cell? ⟨g6, 0, none⟩ = some (.int .i64 K) ∧ X.cell? ⟨g6, 1, none⟩ = some (.int .i64 V) ∧ X.cell? ⟨g6, 2, none⟩ = some (.int .i64 U)) ∧ MapIs sjK inN X gM i f ∧ Below w.heap.size w X) := fun X hX => by
        obtain ⟨a0, a1, a2, a3, a4, a5, a6, a7, a8, _⟩ := (X5.later hX).nine
        obtain ⟨s0, s1, s2, _⟩ := (X7.later hX).three
        exact ⟨⟨a0, a1, a2, a3, a4, a5, a6, a7, a8⟩, ⟨s0, s1, s2⟩, MM.later hX, b7.trans (hX.mono b7.size)⟩
      obtain ⟨_, ⟨s0, s1, s2⟩, _, bW⟩ := H7.out _ (Below.refl _ _)
      clear X5 X7
      cases hf : f (K, V, U) with
      | none =>
        have hlk : (Instr.lookup 72 (.map (some gM)) (.agg #[.int .i64 K, .int .i64 V, .int .i64 U]) true).run Tryz.prog w7 = .ok (.tuple #[.int .i64 0, .bool false]) w7 := MM.look_gone (t := 72) Tryz.underlying72 (zero_intN w7) HKO.out hf true
        have HST := Lib.hid (HPU.out (by rw [hf]; rfl))
        clear HPU HKE hf MM
        go_upto_region 7 with fail
        clear hlk
        go_quiet (fail)
        obtain ⟨_, ⟨s0, s1, s2⟩, MM, bW⟩ := H7.out _ (below_drewN (Below.refl w7.heap.size w7) nq)
        have HMM := Lib.hid MM
        clear MM
        go_wp2_with (at_mapUpdate; refine wpList_put rfl _ _ _ _ rfl sjK inN inN_inj _ Tryz.underlying72 gM i f rfl HMM.out (by unfold maxLen; omega) (K, V, U) i rfl rfl HKO.out ?_; intro w8 hM hg8 hs8)
        exact ⟨⟨i + 1, by omega, by simp, by rw [HST.out]; exact hM, bW.grown hg8 bW.size (fun q hq => by cases hq; exact HGM.out)⟩, by first | omega | (simp [intOf]; omega)⟩
      | some j =>
        have hlk : (Instr.lookup 72 (.map (some gM)) (.agg #[.int .i64 K, .int .i64 V, .int .i64 U]) true).run Tryz.prog w7 = .ok (.tuple #[.int .i64 (j : Int), .bool true]) w7 := MM.look_there (t := 72) Tryz.underlying72 (zero_intN w7) HKO.out hf true
        obtain ⟨y, hjl, hgy⟩ : ∃ y, j < i ∧ l[j]? = some y := by
          rcases HTS.out with ⟨h1, _⟩ | ⟨j', y, h1, h2, h3, _⟩
          · rw [hf] at h1; cases h1
          · rw [hf] at h1; cases h1; exact ⟨y, h2, h3⟩
        have HTA : Hid (telA l (f (K, V, U)) (sq, ⟨K, V, U, N, FL, US, NM, TX⟩) = bigB (sq, ⟨K, V, U, N, FL, US, NM, TX⟩) y) := by
          show _ = _
          rw [hf]
          unfold telA
          simp only [hgy]
        have HNY := Lib.hid (HNP.out y)
        have HBY := Lib.hid (HBN.out y)
        have HYC := Lib.hid (fun X hX => HRW.out X hX j y hgy)
        have hj0 : (0 : Int) ≤ (j : Int) := by omega
        have hj1 : (j : Int) < (n : Int) := by omega
        clear hgy hf MM HTS HBN HNP HRW
        rw [HTA.out] at HPU HKE
        have hbg : bigB (sq, ⟨K, V, U, N, FL, US, NM, TX⟩) y = decide (0 < nsC (sq, ⟨K, V, U, N, FL, US, NM, TX⟩) y) := by
          have := HNY.out
          unfold bigB
          by_cases c : 0 < nsC (sq, ⟨K, V, U, N, FL, US, NM, TX⟩) y
          · rw [decide_eq_true c]; exact this.1 c
          · rw [decide_eq_false c]; exact Bool.eq_false_iff.2 (fun e => c (this.2 e))
        rw [hbg] at HPU HKE
        clear hbg HTA HNY
        generalize nsC (sq, ⟨K, V, U, N, FL, US, NM, TX⟩) y = D at HPU HKE HBY
        obtain ⟨ys, yK, yV, yU, yN, yF, yUS, yNM, yTX⟩ := y
        unfold itmV itV at HBY
        simp only at HBY HYC
        have HS : Hid (∀ X, Below w7.drew.heap.size w7.drew X → ((X.cell? ⟨gp, op + j * 9, none⟩ = some (.int .i64 ys) ∧ X.cell? ⟨gp, op + j * 9 + 1, none⟩ = some (.int .i64 yK) ∧ X.cell? ⟨gp, op + j * 9 + 2, none⟩ = some (.int .i64 yV) ∧ X.cell? ⟨gp, op + j * 9 + 3, none⟩ = some (.int .i64 yU) ∧ X.cell? ⟨gp, op + j * 9 + 4, none⟩ = some (.int .i64 yN) ∧ X.cell? ⟨gp, op + j * 9 + 5, none⟩ = some (.int .i64 yF) ∧ X.cell? ⟨gp, op + j * 9 + 6, none⟩ = some (.string yUS) ∧ X.cell? ⟨gp, op + j * 9 + 7, none⟩ = some (.string yNM) ∧ X.cell? ⟨gp, op + j * 9 + 8, none⟩ = some (.string yTX)) ∧ (X.cell? ⟨g5, 0, none⟩ = some (.int .i64 sq) ∧ X.cell? ⟨g5, 1, none⟩ = some (.int .i64 K) ∧ X.cell? ⟨g5, 2, none⟩ = some (.int .i64 V) ∧ X.cell? ⟨g5, 3, none⟩ = some (.int .i64 U) ∧ X.cell? ⟨g5, 4, none⟩ = some (.int .i64 N) ∧ X.cell? ⟨g5, 5, none⟩ = some (.int .i64 FL) ∧ X.cell? ⟨g5, 6, none⟩ = some (.string US) ∧ X.cell? ⟨g5, 7, none⟩ = some (.string NM) ∧ X.cell? ⟨g5, 8, none⟩ = some (.string TX))) ∧ Below w7.heap.size w7 X) := fun X hX => by
          have hX2 : Below w7.heap.size w7 X := (Below.refl _ _).drew.trans hX
          obtain ⟨hq, _, _, hw⟩ := H7.out _ hX2
          exact ⟨⟨HYC.out _ hw, hq⟩, hX2⟩
        go_upto_region 7 with fail
        clear hlk s0 s1 s2 bW
        by_cases hD : 0 < D
        · have HST := Lib.hid (HPU.out (decide_eq_true hD))
          clear HPU HKE
          go_region_held3 (fun X => (X.cell? ⟨gp, op + j * 9, none⟩ = some (.int .i64 ys) ∧ X.cell? ⟨gp, op + j * 9 + 1, none⟩ = some (.int .i64 yK) ∧ X.cell? ⟨gp, op + j * 9 + 2, none⟩ = some (.int .i64 yV) ∧ X.cell? ⟨gp, op + j * 9 + 3, none⟩ = some (.int .i64 yU) ∧ X.cell? ⟨gp, op + j * 9 + 4, none⟩ = some (.int .i64 yN) ∧ X.cell? ⟨gp, op + j * 9 + 5, none⟩ = some (.int .i64 yF) ∧ X.cell? ⟨gp, op + j * 9 + 6, none⟩ = some (.string yUS) ∧ X.cell? ⟨gp, op + j * 9 + 7, none⟩ = some (.string yNM) ∧ X.cell? ⟨gp, op + j * 9 + 8, none⟩ = some (.string yTX)) ∧ (X.cell? ⟨g5, 0, none⟩ = some (.int .i64 sq) ∧ X.cell? ⟨g5, 1, none⟩ = some (.int .i64 K) ∧ X.cell? ⟨g5, 2, none⟩ = some (.int .i64 V) ∧ X.cell? ⟨g5, 3, none⟩ = some (.int .i64 U) ∧ X.cell? ⟨g5, 4, none⟩ = some (.int .i64 N) ∧ X.cell? ⟨g5, 5, none⟩ = some (.int .i64 FL) ∧ X.cell? ⟨g5, 6, none⟩ = some (.string US) ∧ X.cell? ⟨g5, 7, none⟩ = some (.string NM) ∧ X.cell? ⟨g5, 8, none⟩ = some (.string TX)))
            (first | exact (HS.out _ (Below.refl _ _)).1 | exact (HS.out _ kX).1)
            (first | (go_at_call 55; refine (HBY.out _).mono ?_; rintro e wX ⟨rfl, kX⟩))
          all_goals
            obtain ⟨_, ⟨s0, s1, s2⟩, MM, bW⟩ := H7.out _ (HS.out _ kX).2
            have HMM := Lib.hid MM
            clear MM
            go_wp2_with (at_mapUpdate; refine wpList_put rfl _ _ _ _ rfl sjK inN inN_inj _ Tryz.underlying72 gM i f rfl HMM.out (by unfold maxLen; omega) (K, V, U) i rfl rfl HKO.out ?_; intro w8 hM hg8 hs8)
            exact ⟨⟨i + 1, by omega, by simp, by rw [HST.out]; exact hM, bW.grown hg8 bW.size (fun q hq => by cases hq; exact HGM.out)⟩, by first | omega | (simp [intOf]; omega)⟩
        · have HST := Lib.hid (HKE.out (by rw [decide_eq_false hD]; exact Bool.false_ne_true))
          clear HPU HKE
          go_region_held3 (fun X => (X.cell? ⟨gp, op + j * 9, none⟩ = some (.int .i64 ys) ∧ X.cell? ⟨gp, op + j * 9 + 1, none⟩ = some (.int .i64 yK) ∧ X.cell? ⟨gp, op + j * 9 + 2, none⟩ = some (.int .i64 yV) ∧ X.cell? ⟨gp, op + j * 9 + 3, none⟩ = some (.int .i64 yU) ∧ X.cell? ⟨gp, op + j * 9 + 4, none⟩ = some (.int .i64 yN) ∧ X.cell? ⟨gp, op + j * 9 + 5, none⟩ = some (.int .i64 yF) ∧ X.cell? ⟨gp, op + j * 9 + 6, none⟩ = some (.string yUS) ∧ X.cell? ⟨gp, op + j * 9 + 7, none⟩ = some (.string yNM) ∧ X.cell? ⟨gp, op + j * 9 + 8, none⟩ = some (.string yTX)) ∧ (X.cell? ⟨g5, 0, none⟩ = some (.int .i64 sq) ∧ X.cell? ⟨g5, 1, none⟩ = some (.int .i64 K) ∧ X.cell? ⟨g5, 2, none⟩ = some (.int .i64 V) ∧ X.cell? ⟨g5, 3, none⟩ = some (.int .i64 U) ∧ X.cell? ⟨g5, 4, none⟩ = some (.int .i64 N) ∧ X.cell? ⟨g5, 5, none⟩ = some (.int .i64 FL) ∧ X.cell? ⟨g5, 6, none⟩ = some (.string US) ∧ X.cell? ⟨g5, 7, none⟩ = some (.string NM) ∧ X.cell? ⟨g5, 8, none⟩ = some (.string TX)))
            (first | exact (HS.out _ (Below.refl _ _)).1 | exact (HS.out _ kX).1)
            (first | (go_at_call 55; refine (HBY.out _).mono ?_; rintro e wX ⟨rfl, kX⟩))
          all_goals
            obtain ⟨_, _, MM, bW⟩ := H7.out _ (HS.out _ kX).2
            have HMM := Lib.hid (MM.mono (show i ≤ i + 1 by omega))
            clear MM
            go_wp2
            exact ⟨⟨i + 1, by omega, by simp, by rw [HST.out]; exact HMM.out, bW⟩, by first | omega | (simp [intOf]; omega)⟩
    · have hin : i = n := by omega
      subst hin
      go_wp2
      go_ret
      exact ⟨gM, rfl, HGM.out, MM, bW⟩

end Go.Proofs.YtahebgceoidebaaGreat

/- The list of closures. -/
namespace Go.Proofs.YtahebgceoidebaaGreat
open Go.RowKit

set_option maxRecDepth 100000 in
set_option maxHeartbeats 4000000 in
theorem wantedByKind_any (l : List Itm) (v : Value) (gM n : Nat) (f : Int × Int × Int → Option Nat) (w : World) (h : Rows' itE w v l) (hm : MapIs sjK inN w gM n f) :
    Calls Tryz.prog 42 #[v, .map (some gM)] w fun e w' => ∃ g2 g3 g5 g6 g7 gr, e = .returned (.slice (some ⟨gr, 0, none⟩) 6 6) ∧ Wn w' gM n f v l g2 g3 g5 g6 g7 ∧ (w'.cell? ⟨gr, 1, none⟩ = some (.func (.func 57) #[] #[.pointer (some ⟨g5, 0, none⟩)]) ∧ w'.cell? ⟨gr, 2, none⟩ = some (.func (.func 60) #[] #[.pointer (some ⟨g2, 0, none⟩)]) ∧ w'.cell? ⟨gr, 3, none⟩ = some (.func (.func 59) #[] #[.pointer (some ⟨g7, 0, none⟩), .pointer (some ⟨g5, 0, none⟩)]) ∧ w'.cell? ⟨gr, 4, none⟩ = some (.func (.func 59) #[] #[.pointer (some ⟨g7, 0, none⟩), .pointer (some ⟨g5, 0, none⟩)]) ∧ w'.cell? ⟨gr, 5, none⟩ = some (.func (.func 58) #[] #[.pointer (some ⟨g6, 0, none⟩), .pointer (some ⟨g5, 0, none⟩)])) ∧ (w.heap.size ≤ g2 ∧ w.heap.size ≤ g3 ∧ w.heap.size ≤ g5 ∧ w.heap.size ≤ g6 ∧ w.heap.size ≤ g7 ∧ w.heap.size ≤ gr) ∧ Below w.heap.size w w' := by
  obtain ⟨ad, cap, rfl, _⟩ := h.items
  have hmf : ∀ (fn : Fn) (first cap : Array Value) (w : World), (Instr.makeFunc fn first cap).run Tryz.prog w = .ok (.func fn first cap) w := fun _ _ _ _ => rfl
  have X2 := (Box.new w #[.slice ad l.length cap] 24).later (belNew _ (.cells #[.map (some gM)] 72))
  have X3 : Box ((w.alloc (.cells #[.slice ad l.length cap] 24)).alloc (.cells #[.map (some gM)] 72)) (w.heap.size + 1) #[.map (some gM)] 72 := by
    have := Box.new (w.alloc (.cells #[.slice ad l.length cap] 24)) #[.map (some gM)] 72
    rwa [show (w.alloc (.cells #[.slice ad l.length cap] 24)).heap.size = w.heap.size + 1 from by simp] at this
  have b1 : Below w.heap.size w ((w.alloc (.cells #[.slice ad l.length cap] 24)).alloc (.cells #[.map (some gM)] 72)) := ((Below.refl _ _).alloc (Nat.le_refl _) _).alloc (by simp) _
  go_enter Tryz.func42, Tryz.ntmps42
  go_upto_region 1 with fail
  generalize (w.alloc (.cells #[.slice ad l.length cap] 24)).alloc (.cells #[.map (some gM)] 72) = w1 at X2 X3 b1 ⊢
  have HM := Lib.hid (hm.later b1)
  have HR := Lib.hid (h.later b1)
  clear hm h
  obtain ⟨g2, hg2⟩ : ∃ g2, w.heap.size = g2 := ⟨_, rfl⟩
  obtain ⟨g3, hg3⟩ : ∃ g3, w.heap.size + 1 = g3 := ⟨_, rfl⟩
  rw [hg2] at X2
  rw [hg3] at X3
  rw [hg3, hg2]
  have Z2 : Hid (w.heap.size ≤ g2) := by show _ ≤ _; omega
  have Z3 : Hid (w.heap.size ≤ g3) := by show _ ≤ _; omega
  have Z5 := Lib.hid b1.size
  clear hg3 hg2
  have X5 := Box.new w1 #[.func (.func 56) #[] #[.pointer (some ⟨g3, 0, none⟩)]] 70
  have k5 := belNew w1 (.cells #[.func (.func 56) #[] #[.pointer (some ⟨g3, 0, none⟩)]] 70)
  go_upto_region 2 with fail
  generalize w1.alloc (.cells #[.func (.func 56) #[] #[.pointer (some ⟨g3, 0, none⟩)]] 70) = w5 at X5 k5 ⊢
  have Z6 : Hid (w.heap.size ≤ w5.heap.size) := by have := Z5.out; have := k5.size; show _ ≤ _; omega
  generalize w1.heap.size = g5 at X5 Z5 ⊢
  have X6 := Box.new w5 #[.func (.func 57) #[] #[.pointer (some ⟨g5, 0, none⟩)]] 71
  have k6 := belNew w5 (.cells #[.func (.func 57) #[] #[.pointer (some ⟨g5, 0, none⟩)]] 71)
  go_upto_region 3 with fail
  generalize w5.alloc (.cells #[.func (.func 57) #[] #[.pointer (some ⟨g5, 0, none⟩)]] 71) = w6 at X6 k6 ⊢
  have Z7 : Hid (w.heap.size ≤ w6.heap.size) := by have := Z6.out; have := k6.size; show _ ≤ _; omega
  generalize w5.heap.size = g6 at X6 Z6 ⊢
  have X7 := Box.new w6 #[.func (.func 58) #[] #[.pointer (some ⟨g6, 0, none⟩), .pointer (some ⟨g5, 0, none⟩)]] 71
  have k7 := belNew w6 (.cells #[.func (.func 58) #[] #[.pointer (some ⟨g6, 0, none⟩), .pointer (some ⟨g5, 0, none⟩)]] 71)
  go_upto_region 4 with fail
  generalize w6.alloc (.cells #[.func (.func 58) #[] #[.pointer (some ⟨g6, 0, none⟩), .pointer (some ⟨g5, 0, none⟩)]] 71) = w7 at X7 k7 ⊢
  have ZR : Hid (w.heap.size ≤ w7.heap.size) := by have := Z7.out; have := k7.size; show _ ≤ _; omega
  generalize w6.heap.size = g7 at X7 Z7 ⊢
  have d6 := (X6.later k7).cell 0 (.func (.func 57) #[] #[.pointer (some ⟨g5, 0, none⟩)]) rfl
  have d7 := X7.cell 0 (.func (.func 58) #[] #[.pointer (some ⟨g6, 0, none⟩), .pointer (some ⟨g5, 0, none⟩)]) rfl
  have XR := Box.new w7 #[.nilFunc, .func (.func 57) #[] #[.pointer (some ⟨g5, 0, none⟩)], .func (.func 60) #[] #[.pointer (some ⟨g2, 0, none⟩)], .func (.func 59) #[] #[.pointer (some ⟨g7, 0, none⟩), .pointer (some ⟨g5, 0, none⟩)], .func (.func 59) #[] #[.pointer (some ⟨g7, 0, none⟩), .pointer (some ⟨g5, 0, none⟩)], .func (.func 58) #[] #[.pointer (some ⟨g6, 0, none⟩), .pointer (some ⟨g5, 0, none⟩)]] 71
  have kR := belNew w7 (.cells #[.nilFunc, .func (.func 57) #[] #[.pointer (some ⟨g5, 0, none⟩)], .func (.func 60) #[] #[.pointer (some ⟨g2, 0, none⟩)], .func (.func 59) #[] #[.pointer (some ⟨g7, 0, none⟩), .pointer (some ⟨g5, 0, none⟩)], .func (.func 59) #[] #[.pointer (some ⟨g7, 0, none⟩), .pointer (some ⟨g5, 0, none⟩)], .func (.func 58) #[] #[.pointer (some ⟨g6, 0, none⟩), .pointer (some ⟨g5, 0, none⟩)]] 71)
  have j7 := k6.trans (k7.mono k6.size)
  have j5 := k5.trans (j7.mono k5.size)
  have jE := j5.trans (kR.mono j5.size)
  have HW := Lib.hid (Wn.mk (f := f) (n := n) (HM.out.later jE) ((X2.later jE).cell 0 _ rfl) ((X3.later jE).cell 0 _ rfl) ((X5.later (j7.trans (kR.mono j7.size))).cell 0 _ rfl) ((X6.later (k7.trans (kR.mono k7.size))).cell 0 _ rfl) ((X7.later kR).cell 0 _ rfl) (HR.out.later jE))
  have HC := Lib.hid (show (w7.alloc (.cells #[.nilFunc, .func (.func 57) #[] #[.pointer (some ⟨g5, 0, none⟩)], .func (.func 60) #[] #[.pointer (some ⟨g2, 0, none⟩)], .func (.func 59) #[] #[.pointer (some ⟨g7, 0, none⟩), .pointer (some ⟨g5, 0, none⟩)], .func (.func 59) #[] #[.pointer (some ⟨g7, 0, none⟩), .pointer (some ⟨g5, 0, none⟩)], .func (.func 58) #[] #[.pointer (some ⟨g6, 0, none⟩), .pointer (some ⟨g5, 0, none⟩)]] 71)).cell? ⟨w7.heap.size, 1, none⟩ = some (.func (.func 57) #[] #[.pointer (some ⟨g5, 0, none⟩)]) ∧ (w7.alloc (.cells #[.nilFunc, .func (.func 57) #[] #[.pointer (some ⟨g5, 0, none⟩)], .func (.func 60) #[] #[.pointer (some ⟨g2, 0, none⟩)], .func (.func 59) #[] #[.pointer (some ⟨g7, 0, none⟩), .pointer (some ⟨g5, 0, none⟩)], .func (.func 59) #[] #[.pointer (some ⟨g7, 0, none⟩), .pointer (some ⟨g5, 0, none⟩)], .func (.func 58) #[] #[.pointer (some ⟨g6, 0, none⟩), .pointer (some ⟨g5, 0, none⟩)]] 71)).cell? ⟨w7.heap.size, 2, none⟩ = some (.func (.func 60) #[] #[.pointer (some ⟨g2, 0, none⟩)]) ∧ (w7.alloc (.cells #[.nilFunc, .func (.func 57) #[] #[.pointer (some ⟨g5, 0, none⟩)], .func (.func 60) #[] #[.pointer (some ⟨g2, 0, none⟩)], .func (.func 59) #[] #[.pointer (some ⟨g7, 0, none⟩), .pointer (some ⟨g5, 0, none⟩)], .func (.func 59) #[] #[.pointer (some ⟨g7, 0, none⟩), .pointer (some ⟨g5, 0, none⟩)], .func (.func 58) #[] #[.pointer (some ⟨g6, 0, none⟩), .pointer (some ⟨g5, 0, none⟩)]] 71)).cell? ⟨w7.heap.size, 3, none⟩ = some (.func (.func 59) #[] #[.pointer (some ⟨g7, 0, none⟩), .pointer (some ⟨g5, 0, none⟩)]) ∧ (w7.alloc (.cells #[.nilFunc, .func (.func 57) #[] #[.pointer (some ⟨g5, 0, none⟩)], .func (.func 60) #[] #[.pointer (some ⟨g2, 0, none⟩)], .func (.func 59) #[] #[.pointer (some ⟨g7, 0, none⟩), .pointer (some ⟨g5, 0, none⟩)], .func (.func 59) #[] #[.pointer (some ⟨g7, 0, none⟩), .pointer (some ⟨g5, 0, none⟩)], .func (.func 58) #[] #[.pointer (some ⟨g6, 0, none⟩), .pointer (some ⟨g5, 0, none⟩)]] 71)).cell? ⟨w7.heap.size, 4, none⟩ = some (.func (.func 59) #[] #[.pointer (some ⟨g7, 0, none⟩), .pointer (some ⟨g5, 0, none⟩)]) ∧ (w7.alloc (.cells #[.nilFunc, .func (.func 57) #[] #[.pointer (some ⟨g5, 0, none⟩)], .func (.func 60) #[] #[.pointer (some ⟨g2, 0, none⟩)], .func (.func 59) #[] #[.pointer (some ⟨g7, 0, none⟩), .pointer (some ⟨g5, 0, none⟩)], .func (.func 59) #[] #[.pointer (some ⟨g7, 0, none⟩), .pointer (some ⟨g5, 0, none⟩)], .func (.func 58) #[] #[.pointer (some ⟨g6, 0, none⟩), .pointer (some ⟨g5, 0, none⟩)]] 71)).cell? ⟨w7.heap.size, 5, none⟩ = some (.func (.func 58) #[] #[.pointer (some ⟨g6, 0, none⟩), .pointer (some ⟨g5, 0, none⟩)]) from ⟨XR.cell 1 _ rfl, XR.cell 2 _ rfl, XR.cell 3 _ rfl, XR.cell 4 _ rfl, XR.cell 5 _ rfl⟩)
  have HE := Lib.hid (b1.trans (jE.mono b1.size))
  clear X2 X3 X5 X6 X7 XR k5 k6 k7 kR j5 j7 jE b1 HM HR
  go_wp2
  go_ret
  exact ⟨g2, g3, g5, g6, g7, w7.heap.size, rfl, HW.out, HC.out, ⟨Z2.out, Z3.out, Z5.out, Z6.out, Z7.out, ZR.out⟩, HE.out⟩

end Go.Proofs.YtahebgceoidebaaGreat
