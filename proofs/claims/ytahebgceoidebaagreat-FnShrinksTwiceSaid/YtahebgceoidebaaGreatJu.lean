/- Texts of our own, joined. -/
import Derived.Test.YtahebgceoidebaaGreatJk
import Derived.Test.YtahebgceoidebaaGreatJt
import Derived.Test.YtahebgceoidebaaGreatJe
import Derived.Test.YtahebgceoidebaaGreatJo
import Derived.Test.YtahebgceoidebaaGreatJc
import Derived.Test.YtahebgceoidebaaGreatJh
import Derived.Laws.StructEq
import Derived.Deep.QuietTactic
import Derived.BigQuiet
/- Shrunk of the program. -/
namespace Go.Proofs.YtahebgceoidebaaGreat
open Go.RowKit

set_option maxRecDepth 100000 in
set_option maxHeartbeats 8000000 in
theorem implShrunk_any (l : List Itm) (d : List Bool) (seq : Int) (v vd : Value) (w : World) (h : Rows' itE w v l) (hd : Rows' boE w vd d) (hl : l.length ≤ 1048576) (hz : ∀ x ∈ l, x.2.user.size ≤ 1048576 ∧ x.2.name.size ≤ 1048576 ∧ x.2.text.size ≤ 1048576) :
    Calls Tryz.prog 10 #[v, vd, .int .i64 seq] w fun e w' => ∃ v', e = .returned v' ∧ RBuf itE w.heap.size w w' v' (shr l d seq) := by
  have HL : Hid (∀ x, Below w.heap.size w x → Rows' itE x v l) := fun x hx => h.later hx
  have HB : Hid (∀ x, Below w.heap.size w x → Rows' boE x vd d) := fun x hx => hd.later hx
  have HSOA := Lib.hid (fun (k : Int) x hx hk => soAt_any d vd k x (HB.out x hx) hk)
  have HNA := Lib.hid (implNeededAll_any l v w h hl)
  have HWO := Lib.hid (fun g va vb x h1 h2 => implWithout_any l g va vb x h1 h2 hl (fun y hy => by have := hz y hy; omega))
  have HNX := Lib.hid (fun g va vb x h1 h2 => implNextsOf_any l g va vb x h1 h2 hl hz)
  have HML := Lib.hid (fun g : List Bool => (show (nxs (stateL (wo l g)) (stateL l)).length ≤ 200 by have h1 := nxs_len (stateL (wo l g)) (stateL l); have h2 := (stateL_small l).1; omega))
  have HWL := Lib.hid (fun g : List Bool => wo_len l g)
  have HNL := Lib.hid (needL_len l)
  obtain ⟨ad, cap, rfl, _⟩ := h.items
  obtain ⟨ab, cab, rfl, hbo⟩ := hd.bools
  have HBR := Lib.hid hbo
  clear h hd hz hbo
  obtain ⟨n, hn⟩ : ∃ n, l.length = n := ⟨_, rfl⟩
  obtain ⟨m, hm⟩ : ∃ m, d.length = m := ⟨_, rfl⟩
  have HN := Lib.hid hn
  have HM := Lib.hid hm
  rw [hn] at hl HL HNA HWL HNL
  rw [hm] at HB HSOA
  rw [hn, hm]
  clear hn hm
  have HSH : Hid (shr l d seq = wo l (shP d (needL l) n) ++ moreT (nxs (stateL (wo l (shP d (needL l) n))) (stateL l)) seq (nxs (stateL (wo l (shP d (needL l) n))) (stateL l)).length) := by show _ = _; rw [← HN.out]; rfl
  generalize shr l d seq = SH at HSH ⊢
  generalize needL l = nd at HNA HSH HNL
  go_enter Tryz.func10, Tryz.ntmps10
  go_wp2_with fail
  refine HNA.out.mono ?_
  rintro e w1 ⟨v7, rfl, R7⟩
  have b1 := R7.bel
  obtain ⟨a7, c7, rfl⟩ := R7.form
  rw [HNL.out] at R7 ⊢
  obtain ⟨ad7, cap7, e7, hr7⟩ := R7.rows.bools
  simp only [Value.slice.injEq] at e7
  have HR7 : Hid (BoRow w1 a7 nd) := by rw [e7.1]; exact hr7
  clear e7 hr7 R7 HNA
  go_wp2_with (at_make; refine wpList_make_rows rfl _ _ boE rfl .i64 .i64 _ _ n rfl rfl rfl rfl (by show 2 * n ≤ _; omega) ?_; intro w2 hr2 hs2)
  obtain ⟨gB, hgB⟩ : ∃ gB, w1.heap.size = gB := ⟨_, rfl⟩
  have I0 : RBuf boE w1.heap.size w1 w2 (.slice (some ⟨w1.heap.size, 0, none⟩) n n) (goQ d nd n 0) := hr2
  rw [hgB] at I0
  try rw [hgB]
  have HGB := Lib.hid hgB
  clear hr2 hgB hs2
  have HB1 := Lib.hid b1
  clear b1
  go_wp2
  go_loopw [20] (fun iv wr => ∃ i : Nat, i ≤ n ∧ iv = .int .i64 (i : Int) ∧ RBuf boE gB w1 wr (.slice (some ⟨gB, 0, none⟩) n n) (goQ d nd n i)) (fun iv _ => n - (intOf iv).toNat)
  case atStart => exact ⟨0, by omega, rfl, I0⟩
  case round =>
    clear I0
    obtain ⟨i, hi, rfl, I⟩ := hrel
    have bq : Below w1.heap.size w1 wr := by rw [HGB.out]; exact I.bel
    have bW : Below w.heap.size w wr := HB1.out.trans (bq.mono HB1.out.size)
    by_cases hlt : i < n
    · have hql := goQ_len (d := d) (nd := nd) (n := n) (i := i) (by omega)
      have hqa := goQ_at (d := d) (nd := nd) (n := n) (i := i) hlt
      have HQS := Lib.hid (goQ_set (d := d) (nd := nd) (n := n) (i := i) hlt)
      obtain ⟨us, hus⟩ : ∃ us, goQ d nd n i = us := ⟨_, rfl⟩
      rw [hus] at I hql hqa HQS
      clear hus
      have HCB : Hid (wr.cell? ⟨gB, i, none⟩ = some (.bool false) ∧ wr.frozen? ⟨gB, i, none⟩ = false ∧ ∀ b : Bool, RBuf boE gB w1 (wr.setCell ⟨gB, i, none⟩ (.bool b)) (.slice (some ⟨gB, 0, none⟩) n n) (us.set i b)) := by
        rw [← hql] at I
        have h1 := I.cell rfl i _ hqa 0 _ rfl
        rw [show boE.sz = 1 from rfl, Nat.mul_one, Nat.add_zero] at h1
        refine ⟨h1, I.loose i, fun b => ?_⟩
        have h2 := I.stored i _ b hqa 0 (by decide) (.bool b) rfl
        rw [show boE.sz = 1 from rfl, Nat.mul_one, Nat.add_zero, hql] at h2
        exact h2
      clear hql hqa
      obtain ⟨q, hq⟩ : ∃ q, nd[i]? = some q := ⟨_, List.getElem?_eq_getElem (by rw [HNL.out]; exact hlt)⟩
      obtain ⟨g7, o7, rfl, p7⟩ := HR7.out _ bq i q hq
      obtain ⟨cB, lB, hst⟩ := HCB.out
      have hi0 : (0 : Int) ≤ (i : Int) := by omega
      have hi1 : (i : Int) < (n : Int) := by omega
      have HNQ : Hid (decide (nd[i]? = some true) = q) := by show _ = _; rw [hq]; cases q <;> rfl
      rw [HNQ.out] at HQS
      clear HCB hq I HNQ
      have HSO := Lib.hid (HSOA.out (i : Int) wr bW (by omega))
      rw [soB_nat] at HSO
      generalize decide (d[i]? = some true) = b at HSO HQS
      have hst2 := hst (b && !q)
      rw [HQS.out] at hst2
      have HST := Lib.hid hst2
      clear hst hst2 HQS
      cases b with
      | false =>
        go_wp2_with (go_at_call 32; refine HSO.out.mono ?_; rintro e w5 ⟨rfl, rfl⟩)
        exact ⟨⟨i + 1, by omega, by simp, HST.out⟩, by first | omega | (simp [intOf]; omega)⟩
      | true =>
        cases q with
        | false =>
          go_wp2_with (go_at_call 32; refine HSO.out.mono ?_; rintro e w5 ⟨rfl, rfl⟩)
          exact ⟨⟨i + 1, by omega, by simp, HST.out⟩, by first | omega | (simp [intOf]; omega)⟩
        | true =>
          go_wp2_with (go_at_call 32; refine HSO.out.mono ?_; rintro e w5 ⟨rfl, rfl⟩)
          exact ⟨⟨i + 1, by omega, by simp, HST.out⟩, by first | omega | (simp [intOf]; omega)⟩
    · have hin : i = n := by omega
      have hg : goQ d nd n i = shP d nd n := by unfold goQ; rw [hin, Nat.sub_self, List.replicate_zero, List.append_nil]
      rw [hg] at I
      clear hg hin
      obtain ⟨wB, hwB⟩ : ∃ wB, wB = wr := ⟨_, rfl⟩
      subst hwB
      generalize shP d nd n = gs at I HSH
      have I' := I.here
      clear I
      go_wp2_with fail
      refine (HWO.out gs _ _ _ (HL.out _ bW) I'.rows).mono ?_
      rintro e w4 ⟨v10, rfl, R10⟩
      have b4 := bW.trans (R10.bel.mono bW.size)
      replace I' := (I'.later R10.bel).here
      obtain ⟨a10, c10, rfl⟩ := R10.form
      go_wp2_with fail
      refine (HNX.out gs _ _ _ (HL.out _ b4) I'.rows).mono ?_
      rintro e w5 ⟨v11, rfl, R11⟩
      have hml := HML.out gs
      have hwl := HWL.out gs
      generalize nxs (stateL (wo l gs)) (stateL l) = M at R11 HSH hml
      obtain ⟨a11, c11, rfl⟩ := R11.form
      have OM : Hid (∀ k, (Value.slice a11 M.length c11).ownBlock = some k → w4.heap.size ≤ k ∧ k < w5.heap.size) := fun k hk => R11.own.lt k hk
      have OO : Hid (∀ k, (Value.slice a10 (wo l gs).length c10).ownBlock = some k → k < w4.heap.size ∨ w5.heap.size ≤ k) := fun k hk => .inl (R10.own.lt k hk).2
      have J0 := R10.later R11.bel
      replace R11 := R11.here
      generalize hWO : wo l gs = W at *
      have Q0 : Hid (W = W ++ moreT M seq 0) := by show _ = _; rw [show moreT M seq 0 = [] from rfl, List.append_nil]
      replace J0 : RBuf itE wB.heap.size wB w5 (.slice a10 W.length c10) (W ++ moreT M seq 0) := by rw [← Q0.out]; exact J0
      have HBW := Lib.hid bW
      clear hWO I' R10 b4 HWO HNX HML HWL HL HB bq bW
      obtain ⟨p, hp⟩ : ∃ p, M.length = p := ⟨_, rfl⟩
      have HP := Lib.hid hp
      rw [hp] at hml R11 OM
      rw [hp]
      clear hp
      go_wp2
      go_loopw [10, 44] (fun v iv wq => ∃ i : Nat, i ≤ p ∧ iv = .int .i64 (i : Int) ∧ RBuf itE wB.heap.size wB wq v (W ++ moreT M seq i) ∧ RBuf rcE w4.heap.size wq wq (.slice a11 p c11) M ∧ (∀ k, v.ownBlock = some k → k < w4.heap.size ∨ w5.heap.size ≤ k) ∧ w5.heap.size ≤ wq.heap.size) (fun _ iv _ => p - (intOf iv).toNat)
      case atStart => exact ⟨0, by omega, rfl, J0, R11, OO.out, Nat.le_refl _⟩
      case round =>
        clear J0 R11 OO
        obtain ⟨k, hk, rfl, J, R11, ho, hsz⟩ := hrel
        have HO := Lib.hid ho
        have HSZ := Lib.hid hsz
        clear ho hsz
        by_cases hlk : k < p
        · obtain ⟨r, hgr⟩ : ∃ r, M[k]? = some r := ⟨_, List.getElem?_eq_getElem (by rw [HP.out]; exact hlk)⟩
          obtain ⟨ad', cap', e', hrow⟩ := R11.rows.recs
          simp only [Value.slice.injEq] at e'
          rw [← e'.1] at hrow
          obtain ⟨gr, og, rfl, q0, q1, q2, q3, q4, q5, q6, q7⟩ := hrow _ (Below.refl _ _) k r hgr
          have HST := Lib.hid (moreT_step (seq := seq) hgr)
          have hll : (W ++ moreT M seq k).length ≤ 2097152 := by rw [List.length_append, moreT_len k (by rw [HP.out]; exact hk)]; omega
          clear hrow e' hgr
          obtain ⟨sq, hsq⟩ : ∃ sq, IntKind.i64.wrap (seq + (k : Int)) = sq := ⟨_, rfl⟩
          rw [hsq] at HST
          obtain ⟨K, V, U, N, FL, US, NM, TX⟩ := r
          simp only at q0 q1 q2 q3 q4 q5 q6 q7
          have hk0 : (0 : Int) ≤ (k : Int) := by omega
          have hk1 : (k : Int) < (p : Int) := by omega
          have X4 := Box.new wr #[.int .i64 K, .int .i64 V, .int .i64 U, .int .i64 N, .int .i64 FL, .string US, .string NM, .string TX] 47
          have k4 := belNew wr (.cells #[.int .i64 K, .int .i64 V, .int .i64 U, .int .i64 N, .int .i64 FL, .string US, .string NM, .string TX] 47)
          have J4 := J.later k4
          have R4 := (R11.later k4).here
          have hs4 : w5.heap.size ≤ (wr.alloc (.cells #[.int .i64 K, .int .i64 V, .int .i64 U, .int .i64 N, .int .i64 FL, .string US, .string NM, .string TX] 47)).heap.size := by have := HSZ.out; simp; omega
          go_upto_region 12 with fail
          clear q0 q1 q2 q3 q4 q5 q6 q7 k4
          generalize wr.alloc (.cells #[.int .i64 K, .int .i64 V, .int .i64 U, .int .i64 N, .int .i64 FL, .string US, .string NM, .string TX] 47) = wz at X4 J4 R4 hs4 ⊢
          generalize wr.heap.size = gz at X4 ⊢
          obtain ⟨q0, q1, q2, q3, q4, q5, q6, q7, _⟩ := X4.eight
          clear X4
          have HR6 := Lib.hid (J4.alloc (.cells #[.int .i64 sq, .int .i64 K, .int .i64 V, .int .i64 U, .int .i64 N, .int .i64 FL, .string US, .string NM, .string TX] 49))
          have HL6 := Lib.hid (RBuf.lit1 itE wz (sq, ⟨K, V, U, N, FL, US, NM, TX⟩))
          have HM6 := Lib.hid ((R4.later (belNew wz (.cells #[.int .i64 sq, .int .i64 K, .int .i64 V, .int .i64 U, .int .i64 N, .int .i64 FL, .string US, .string NM, .string TX] 49))).here)
          have hs6 : w5.heap.size ≤ (wz.alloc (.cells #[.int .i64 sq, .int .i64 K, .int .i64 V, .int .i64 U, .int .i64 N, .int .i64 FL, .string US, .string NM, .string TX] 49)).heap.size := by simp; omega
          have HS6 := Lib.hid hs6
          clear J R11 J4 R4 hs4 hs6
          obtain ⟨us, hus⟩ : ∃ us, W ++ moreT M seq k = us := ⟨_, rfl⟩
          rw [hus] at HR6 hll
          have HUS := Lib.hid hus
          clear hus
          go_wp2_with (at_builtin; refine wpList_append_rows rfl _ _ itE rfl wB.heap.size _ _ rfl HR6.out.here wz.heap.size _ [(sq, ⟨K, V, U, N, FL, US, NM, TX⟩)] rfl HL6.out (by show _ * 97 ≤ _; simp only [List.length_cons, List.length_nil]; omega) ?_; intro v6 w6 r6 g6 at6)
          exact ⟨⟨k + 1, by omega, by simp, by rw [HST.out, ← List.append_assoc, HUS.out]; exact ⟨r6.own, HR6.out.bel.grown g6 HR6.out.le (fun q hq => (HR6.out.own.lt q hq).1), r6.le⟩, HM6.out.shift g6 (by
            cases hv : (Value.slice (some ⟨gr, og, none⟩) p c11).ownBlock with
            | none => exact .inl rfl
            | some q => exact .inr (fun e => by
                have h1 := OM.out q hv
                rcases HO.out q e.symm with h2 | h2 <;> omega)), fun q hq => by
            rcases at6 with e | e
            · exact HO.out q (e ▸ hq)
            · rw [e] at hq; cases hq; exact .inr HS6.out, Nat.le_trans HS6.out g6.size⟩, by first | omega | (simp [intOf]; omega)⟩
        · have hkp : k = p := by omega
          subst hkp
          have HE : Hid (SH = W ++ moreT M seq k) := by show _ = _; rw [HSH.out, HP.out]
          clear R11
          go_wp2
          go_ret
          refine ⟨_, rfl, ?_⟩
          rw [HE.out]
          exact J.down (HBW.out.trans (J.bel.mono HBW.out.size)) HBW.out.size

end Go.Proofs.YtahebgceoidebaaGreat

/- Lists of items and of records compared: alike is alike; Needed of the program. -/
namespace Go.Proofs.YtahebgceoidebaaGreat
open Go.RowKit

theorem item_fieldsS : Tryz.prog.underlying 49 = some (.struct (Tryz.prog.fieldsOf 49)) := by kernel_rfl
theorem rec_fieldsS : Tryz.prog.underlying 47 = some (.struct (Tryz.prog.fieldsOf 47)) := by kernel_rfl

set_option maxRecDepth 100000 in
set_option maxHeartbeats 2000000 in
theorem run_sameRecs_equal (x : Rc) (w : World) : (Op.equalIn 10000 47 (.agg #[.int .i64 x.kind, .int .i64 x.valid, .int .i64 x.uid, .int .i64 x.next, .int .i64 x.flags, .string x.user, .string x.name, .string x.text]) (.agg #[.int .i64 x.kind, .int .i64 x.valid, .int .i64 x.uid, .int .i64 x.next, .int .i64 x.flags, .string x.user, .string x.name, .string x.text])).run Tryz.prog w = .ok true w := by
  rw [run_equalIn_agg _ 9999 _ _ _ rec_fieldsS (by kernel_rfl)]
  simp [go_sem, Op.eqFields, Tryz.underlying47, Program.fieldsOf]

set_option maxRecDepth 100000 in
set_option maxHeartbeats 2000000 in
theorem run_sameRecs_equal9 (x : Rc) (w : World) : (Op.equalIn 9999 47 (.agg #[.int .i64 x.kind, .int .i64 x.valid, .int .i64 x.uid, .int .i64 x.next, .int .i64 x.flags, .string x.user, .string x.name, .string x.text]) (.agg #[.int .i64 x.kind, .int .i64 x.valid, .int .i64 x.uid, .int .i64 x.next, .int .i64 x.flags, .string x.user, .string x.name, .string x.text])).run Tryz.prog w = .ok true w := by
  rw [run_equalIn_agg _ 9998 _ _ _ rec_fieldsS (by kernel_rfl)]
  simp [go_sem, Op.eqFields, Tryz.underlying47, Program.fieldsOf]

set_option maxRecDepth 100000 in
theorem run_sameRecs_neq (x : Rc) (w : World) : (binOp .neq 47 (.agg #[.int .i64 x.kind, .int .i64 x.valid, .int .i64 x.uid, .int .i64 x.next, .int .i64 x.flags, .string x.user, .string x.name, .string x.text]) (.agg #[.int .i64 x.kind, .int .i64 x.valid, .int .i64 x.uid, .int .i64 x.next, .int .i64 x.flags, .string x.user, .string x.name, .string x.text])).run Tryz.prog w = .ok (.bool false) w := by
  rw [run_neq_struct, run_sameRecs_equal x]; rfl

set_option maxRecDepth 100000 in
set_option maxHeartbeats 2000000 in
theorem run_sameItems_neq (x : Itm) (w : World) : (binOp .neq 49 (.agg #[.int .i64 x.1, .int .i64 x.2.kind, .int .i64 x.2.valid, .int .i64 x.2.uid, .int .i64 x.2.next, .int .i64 x.2.flags, .string x.2.user, .string x.2.name, .string x.2.text]) (.agg #[.int .i64 x.1, .int .i64 x.2.kind, .int .i64 x.2.valid, .int .i64 x.2.uid, .int .i64 x.2.next, .int .i64 x.2.flags, .string x.2.user, .string x.2.name, .string x.2.text])).run Tryz.prog w = .ok (.bool false) w := by
  have h := run_sameRecs_equal9 x.2
  have h1 : (Op.equalIn 10000 49 (.agg #[.int .i64 x.1, .int .i64 x.2.kind, .int .i64 x.2.valid, .int .i64 x.2.uid, .int .i64 x.2.next, .int .i64 x.2.flags, .string x.2.user, .string x.2.name, .string x.2.text]) (.agg #[.int .i64 x.1, .int .i64 x.2.kind, .int .i64 x.2.valid, .int .i64 x.2.uid, .int .i64 x.2.next, .int .i64 x.2.flags, .string x.2.user, .string x.2.name, .string x.2.text])).run Tryz.prog w = .ok true w := by
    rw [run_equalIn_agg _ 9999 _ _ _ item_fieldsS (by kernel_rfl)]
    simp [go_sem, Op.eqFields, Tryz.underlying49, Program.fieldsOf, h]
  rw [run_neq_struct, h1]; rfl

set_option maxRecDepth 100000 in
set_option maxHeartbeats 2000000 in
theorem sameItems_same (l : List Itm) (va vb : Value) (w : World) (ha : Rows' itE w va l) (hb : Rows' itE w vb l) (hl : l.length ≤ 1099511627776) :
    Calls Tryz.prog 14 #[va, vb] w fun e w' => e = .returned (.bool true) ∧ Below w.heap.size w w' := by
  obtain ⟨ad, cap, rfl, hrowa⟩ := ha.items
  obtain ⟨ad2, cap2, rfl, hrowb⟩ := hb.items
  have HA := Lib.hid hrowa
  have HB := Lib.hid hrowb
  clear ha hb hrowa hrowb
  go_enter Tryz.func14, Tryz.ntmps14
  go_wp2
  go_loopw [5] (fun iv wr => ∃ i : Nat, i ≤ l.length ∧ iv = .int .i64 (i : Int) ∧ Below w.heap.size w wr) (fun iv _ => l.length - (intOf iv).toNat)
  case atStart => exact ⟨0, by omega, rfl, Below.refl _ _⟩
  case round =>
    obtain ⟨i, hi, rfl, hbel⟩ := hrel
    by_cases hlt : i < l.length
    · have hg : l[i]? = some l[i] := List.getElem?_eq_getElem hlt
      obtain ⟨ga, oa, rfl, a0, a1, a2, a3, a4, a5, a6, a7, a8⟩ := HA.out _ hbel i _ hg
      obtain ⟨gb, ob, rfl, b0, b1, b2, b3, b4, b5, b6, b7, b8⟩ := HB.out _ hbel i _ hg
      generalize l[i] = x at *
      have hi0 : (0 : Int) ≤ (i : Int) := by omega
      have hi1 : (i : Int) < (l.length : Int) := by omega
      have hneq := run_sameItems_neq x
      clear hg
      go_wp2
      go_quiet (fail)
      go_wp2
      go_roundw
      case rel => exact ⟨i + 1, by omega, by go_num, hbel.trans ⟨rfl, rfl, rfl, Nat.le_refl _, fun _ _ => rfl⟩⟩
      case measure => simp [intOf]; omega
    · go_wp2
      go_ret
      exact ⟨rfl, hbel⟩

set_option maxRecDepth 100000 in
set_option maxHeartbeats 2000000 in
theorem sameRecs_same (l : List Rc) (va vb : Value) (w : World) (ha : Rows' rcE w va l) (hb : Rows' rcE w vb l) (hl : l.length ≤ 1099511627776) :
    Calls Tryz.prog 24 #[va, vb] w fun e w' => e = .returned (.bool true) ∧ Below w.heap.size w w' := by
  obtain ⟨ad, cap, rfl, hrowa⟩ := ha.recs
  obtain ⟨ad2, cap2, rfl, hrowb⟩ := hb.recs
  have HA := Lib.hid hrowa
  have HB := Lib.hid hrowb
  clear ha hb hrowa hrowb
  go_enter Tryz.func24, Tryz.ntmps24
  go_wp2
  go_loopw [5] (fun iv wr => ∃ i : Nat, i ≤ l.length ∧ iv = .int .i64 (i : Int) ∧ Below w.heap.size w wr) (fun iv _ => l.length - (intOf iv).toNat)
  case atStart => exact ⟨0, by omega, rfl, Below.refl _ _⟩
  case round =>
    obtain ⟨i, hi, rfl, hbel⟩ := hrel
    by_cases hlt : i < l.length
    · have hg : l[i]? = some l[i] := List.getElem?_eq_getElem hlt
      obtain ⟨ga, oa, rfl, a0, a1, a2, a3, a4, a5, a6, a7⟩ := HA.out _ hbel i _ hg
      obtain ⟨gb, ob, rfl, b0, b1, b2, b3, b4, b5, b6, b7⟩ := HB.out _ hbel i _ hg
      generalize l[i] = x at *
      have hi0 : (0 : Int) ≤ (i : Int) := by omega
      have hi1 : (i : Int) < (l.length : Int) := by omega
      have hneq := run_sameRecs_neq x
      clear hg
      go_wp2
      go_quiet (fail)
      go_wp2
      go_roundw
      case rel => exact ⟨i + 1, by omega, by go_num, hbel.trans ⟨rfl, rfl, rfl, Nat.le_refl _, fun _ _ => rfl⟩⟩
      case measure => simp [intOf]; omega
    · go_wp2
      go_ret
      exact ⟨rfl, hbel⟩

set_option maxRecDepth 100000 in
theorem implNeeded_e (l : List Itm) (v : Value) (k : Int) (w : World) (h : Rows' itE w v l) (hl : l.length ≤ 1048576) (hk : -9223372036854775808 ≤ k ∧ k ≤ 9223372036854775807) :
    Calls Tryz.prog 17 #[v, .int .i64 k] w fun e w' => e = .returned (.bool (soB (needL l) k)) ∧ Below w.heap.size w w' := by
  have HNA := Lib.hid (implNeededAll_any l v w h hl)
  obtain ⟨ad, cap, rfl, _⟩ := h.items
  clear h
  obtain ⟨D, hD⟩ : ∃ D, soB (needL l) k = D := ⟨_, rfl⟩
  have HD := Lib.hid hD
  rw [hD]
  clear hD
  go_enter Tryz.func17, Tryz.ntmps17
  go_wp2_with fail
  refine HNA.out.mono ?_
  rintro e w1 ⟨v1, rfl, R1⟩
  obtain ⟨a1, c1, rfl⟩ := R1.form
  have b1 := R1.bel
  go_wp2_with fail
  refine (soAt_any _ _ k _ R1.rows hk).mono ?_
  rintro e w2 ⟨rfl, rfl⟩
  rw [HD.out]
  go_wp2
  go_ret
  exact ⟨rfl, b1⟩

end Go.Proofs.YtahebgceoidebaaGreat
