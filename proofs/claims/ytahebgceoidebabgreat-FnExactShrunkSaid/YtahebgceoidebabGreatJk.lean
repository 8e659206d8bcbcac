/- Texts of our own, joined. -/
import Derived.Test.YtahebgceoidebabGreatJj
import Derived.Test.YtahebgceoidebabGreatJi
import Derived.DeepKeys4
import Derived.WalkArith
import Derived.Test.YtahebgceoidebabGreatJb
import Derived.Laws.StructEq
import Derived.WalkSpells
import Derived.WalkSmall
import Derived.Test.YtahebgceoidebabGreatJc
/- Shrunk of the model. -/
namespace Go.Proofs.YtahebgceoidebabGreat
open Go.RowKit

set_option maxRecDepth 100000 in
set_option maxHeartbeats 8000000 in
theorem specShrunk_any (l : List Itm) (d : List Bool) (seq : Int) (v vd : Value) (w : World) (h : Rows' itE w v l) (hd : Rows' boE w vd d) (hl : l.length ≤ 1048576) (hz : ∀ x ∈ l, x.2.user.size ≤ 1048576 ∧ x.2.name.size ≤ 1048576 ∧ x.2.text.size ≤ 1048576) :
    Calls Tryz.prog 5 #[v, vd, .int .i64 seq] w fun e w' => ∃ v', e = .returned v' ∧ RBuf itE w.heap.size w w' v' (shr l d seq) := by
  have HL : Hid (∀ x, Below w.heap.size w x → Rows' itE x v l) := fun x hx => h.later hx
  have HB : Hid (∀ x, Below w.heap.size w x → Rows' boE x vd d) := fun x hx => hd.later hx
  have HNA := Lib.hid (specNeededAll_any l v w h hl hz)
  have HWO := Lib.hid (fun g va vb x h1 h2 => specWithout_any l g va vb x h1 h2 hl)
  have HNX := Lib.hid (fun g va vb x h1 h2 => specNextsOf_any l g va vb x h1 h2 hl hz)
  have HML := Lib.hid (fun g : List Bool => (show (nxs (stateL (wo l g)) (stateL l)).length ≤ 200 by have h1 := nxs_len (stateL (wo l g)) (stateL l); have h2 := (stateL_small l).1; omega))
  have HWL := Lib.hid (fun g : List Bool => wo_len l g)
  have HNL := Lib.hid (needL_len l)
  obtain ⟨ad, cap, rfl, _⟩ := h.items
  obtain ⟨ab, cab, rfl, hbo⟩ := hd.bools
  have HBR := Lib.hid hbo
  clear h hd hz hbo
  obtain ⟨n, hn⟩ : ∃ n, l.length = n := ⟨_, rfl⟩
  obtain ⟨m, hm⟩ : ∃ m, d.length = m := ⟨_, rfl⟩
  have HN := Lib.hid hn
  have HM := Lib.hid hm
  rw [hn] at hl HL HNA HWL HNL
  rw [hm] at HB
  rw [hn, hm]
  clear hn hm
  have HSH : Hid (shr l d seq = wo l (shP d (needL l) n) ++ moreT (nxs (stateL (wo l (shP d (needL l) n))) (stateL l)) seq (nxs (stateL (wo l (shP d (needL l) n))) (stateL l)).length) := by show _ = _; rw [← HN.out]; rfl
  generalize shr l d seq = SH at HSH ⊢
  generalize needL l = nd at HNA HSH HNL
  go_enter Tryz.func5, Tryz.ntmps5
  go_wp2_with fail
  refine HNA.out.mono ?_
  rintro e w1 ⟨v7, rfl, R7⟩
  have b1 := R7.bel
  obtain ⟨a7, c7, rfl⟩ := R7.form
  rw [HNL.out] at R7 ⊢
  obtain ⟨ad7, cap7, e7, hr7⟩ := R7.rows.bools
  simp only [Value.slice.injEq] at e7
  have HR7 : Hid (BoRow w1 a7 nd) := by rw [e7.1]; exact hr7
  clear e7 hr7 R7 HNA
  go_wp2_with (at_make; refine wpList_make_rows rfl _ _ boE rfl .i64 .i64 _ _ n rfl rfl rfl rfl (by show 2 * n ≤ _; omega) ?_; intro w2 hr2 hs2)
  obtain ⟨gB, hgB⟩ : ∃ gB, w1.heap.size = gB := ⟨_, rfl⟩
  have I0 : RBuf boE w1.heap.size w1 w2 (.slice (some ⟨w1.heap.size, 0, none⟩) n n) (goQ d nd n 0) := hr2
  rw [hgB] at I0
  try rw [hgB]
  have HGB := Lib.hid hgB
  clear hr2 hgB hs2
  have HB1 := Lib.hid b1
  clear b1
  go_wp2
  go_loopw [9] (fun iv wr => ∃ i : Nat, i ≤ n ∧ iv = .int .i64 (i : Int) ∧ RBuf boE gB w1 wr (.slice (some ⟨gB, 0, none⟩) n n) (goQ d nd n i)) (fun iv _ => n - (intOf iv).toNat)
  case atStart => exact ⟨0, by omega, rfl, I0⟩
  case round =>
    clear I0
    obtain ⟨i, hi, rfl, I⟩ := hrel
    have bq : Below w1.heap.size w1 wr := by rw [HGB.out]; exact I.bel
    have bW : Below w.heap.size w wr := HB1.out.trans (bq.mono HB1.out.size)
    by_cases hlt : i < n
    · have hql := goQ_len (d := d) (nd := nd) (n := n) (i := i) (by omega)
      have hqa := goQ_at (d := d) (nd := nd) (n := n) (i := i) hlt
      have HQS := Lib.hid (goQ_set (d := d) (nd := nd) (n := n) (i := i) hlt)
      obtain ⟨us, hus⟩ : ∃ us, goQ d nd n i = us := ⟨_, rfl⟩
      rw [hus] at I hql hqa HQS
      clear hus
      have HCB : Hid (wr.cell? ⟨gB, i, none⟩ = some (.bool false) ∧ wr.frozen? ⟨gB, i, none⟩ = false ∧ ∀ b : Bool, RBuf boE gB w1 (wr.setCell ⟨gB, i, none⟩ (.bool b)) (.slice (some ⟨gB, 0, none⟩) n n) (us.set i b)) := by
        rw [← hql] at I
        have h1 := I.cell rfl i _ hqa 0 _ rfl
        rw [show boE.sz = 1 from rfl, Nat.mul_one, Nat.add_zero] at h1
        refine ⟨h1, I.loose i, fun b => ?_⟩
        have h2 := I.stored i _ b hqa 0 (by decide) (.bool b) rfl
        rw [show boE.sz = 1 from rfl, Nat.mul_one, Nat.add_zero, hql] at h2
        exact h2
      clear hql hqa
      obtain ⟨q, hq⟩ : ∃ q, nd[i]? = some q := ⟨_, List.getElem?_eq_getElem (by rw [HNL.out]; exact hlt)⟩
      obtain ⟨g7, o7, rfl, p7⟩ := HR7.out _ bq i q hq
      obtain ⟨cB, lB, hst⟩ := HCB.out
      have hi0 : (0 : Int) ≤ (i : Int) := by omega
      have hi1 : (i : Int) < (n : Int) := by omega
      have HNQ : Hid (decide (nd[i]? = some true) = q) := by show _ = _; rw [hq]; cases q <;> rfl
      rw [HNQ.out] at HQS
      clear HCB hq I HNQ
      by_cases hid : i < m
      · obtain ⟨b, hb⟩ : ∃ b, d[i]? = some b := ⟨_, List.getElem?_eq_getElem (by rw [HM.out]; exact hid)⟩
        obtain ⟨gd, od, rfl, pd⟩ := HBR.out _ bW i b hb
        have hi2 : (i : Int) < (m : Int) := by omega
        have HBQ : Hid (decide (d[i]? = some true) = b) := by show _ = _; rw [hb]; cases b <;> rfl
        rw [HBQ.out] at HQS
        clear hb HBQ
        have hst2 := hst (b && !q)
        rw [HQS.out] at hst2
        have HST := Lib.hid hst2
        clear hst hst2 HQS
        cases b with
        | false =>
          go_wp2
          exact ⟨⟨i + 1, by omega, by simp, HST.out⟩, by first | omega | (simp [intOf]; omega)⟩
        | true =>
          cases q with
          | false =>
            go_wp2
            exact ⟨⟨i + 1, by omega, by simp, HST.out⟩, by first | omega | (simp [intOf]; omega)⟩
          | true =>
            go_wp2
            exact ⟨⟨i + 1, by omega, by simp, HST.out⟩, by first | omega | (simp [intOf]; omega)⟩
      · have hi2 : ¬ (i : Int) < (m : Int) := by omega
        have HBQ : Hid (decide (d[i]? = some true) = false) := by show _ = _; rw [List.getElem?_eq_none (by rw [HM.out]; omega)]; rfl
        rw [HBQ.out, Bool.false_and] at HQS
        have hst2 := hst false
        rw [HQS.out] at hst2
        have HST := Lib.hid hst2
        clear hst hst2 HQS HBQ
        go_wp2
        exact ⟨⟨i + 1, by omega, by simp, HST.out⟩, by first | omega | (simp [intOf]; omega)⟩
    · have hin : i = n := by omega
      have hg : goQ d nd n i = shP d nd n := by unfold goQ; rw [hin, Nat.sub_self, List.replicate_zero, List.append_nil]
      rw [hg] at I
      clear hg hin
      obtain ⟨wB, hwB⟩ : ∃ wB, wB = wr := ⟨_, rfl⟩
      subst hwB
      generalize shP d nd n = gs at I HSH
      have I' := I.here
      clear I
      go_wp2_with fail
      refine (HWO.out gs _ _ _ (HL.out _ bW) I'.rows).mono ?_
      rintro e w4 ⟨v10, rfl, R10⟩
      have b4 := bW.trans (R10.bel.mono bW.size)
      replace I' := (I'.later R10.bel).here
      obtain ⟨a10, c10, rfl⟩ := R10.form
      go_wp2_with fail
      refine (HNX.out gs _ _ _ (HL.out _ b4) I'.rows).mono ?_
      rintro e w5 ⟨v11, rfl, R11⟩
      have hml := HML.out gs
      have hwl := HWL.out gs
      generalize nxs (stateL (wo l gs)) (stateL l) = M at R11 HSH hml
      obtain ⟨a11, c11, rfl⟩ := R11.form
      have OM : Hid (∀ k, (Value.slice a11 M.length c11).ownBlock = some k → w4.heap.size ≤ k ∧ k < w5.heap.size) := fun k hk => R11.own.lt k hk
      have OO : Hid (∀ k, (Value.slice a10 (wo l gs).length c10).ownBlock = some k → k < w4.heap.size ∨ w5.heap.size ≤ k) := fun k hk => .inl (R10.own.lt k hk).2
      have J0 := R10.later R11.bel
      replace R11 := R11.here
      generalize hWO : wo l gs = W at *
      have Q0 : Hid (W = W ++ moreT M seq 0) := by show _ = _; rw [show moreT M seq 0 = [] from rfl, List.append_nil]
      replace J0 : RBuf itE wB.heap.size wB w5 (.slice a10 W.length c10) (W ++ moreT M seq 0) := by rw [← Q0.out]; exact J0
      have HBW := Lib.hid bW
      clear hWO I' R10 b4 HWO HNX HML HWL HL HB bq bW
      obtain ⟨p, hp⟩ : ∃ p, M.length = p := ⟨_, rfl⟩
      have HP := Lib.hid hp
      rw [hp] at hml R11 OM
      rw [hp]
      clear hp
      go_wp2
      go_loopw [10, 12] (fun v iv wq => ∃ i : Nat, i ≤ p ∧ iv = .int .i64 (i : Int) ∧ RBuf itE wB.heap.size wB wq v (W ++ moreT M seq i) ∧ RBuf rcE w4.heap.size wq wq (.slice a11 p c11) M ∧ (∀ k, v.ownBlock = some k → k < w4.heap.size ∨ w5.heap.size ≤ k) ∧ w5.heap.size ≤ wq.heap.size) (fun _ iv _ => p - (intOf iv).toNat)
      case atStart => exact ⟨0, by omega, rfl, J0, R11, OO.out, Nat.le_refl _⟩
      case round =>
        clear J0 R11 OO
        obtain ⟨k, hk, rfl, J, R11, ho, hsz⟩ := hrel
        have HO := Lib.hid ho
        have HSZ := Lib.hid hsz
        clear ho hsz
        by_cases hlk : k < p
        · obtain ⟨r, hgr⟩ : ∃ r, M[k]? = some r := ⟨_, List.getElem?_eq_getElem (by rw [HP.out]; exact hlk)⟩
          obtain ⟨ad', cap', e', hrow⟩ := R11.rows.recs
          simp only [Value.slice.injEq] at e'
          rw [← e'.1] at hrow
          obtain ⟨gr, og, rfl, q0, q1, q2, q3, q4, q5, q6, q7⟩ := hrow _ (Below.refl _ _) k r hgr
          have HST := Lib.hid (moreT_step (seq := seq) hgr)
          have hll : (W ++ moreT M seq k).length ≤ 2097152 := by rw [List.length_append, moreT_len k (by rw [HP.out]; exact hk)]; omega
          clear hrow e' hgr
          obtain ⟨sq, hsq⟩ : ∃ sq, IntKind.i64.wrap (seq + (k : Int)) = sq := ⟨_, rfl⟩
          rw [hsq] at HST
          obtain ⟨K, V, U, N, FL, US, NM, TX⟩ := r
          simp only at q0 q1 q2 q3 q4 q5 q6 q7
          have hk0 : (0 : Int) ≤ (k : Int) := by omega
          have hk1 : (k : Int) < (p : Int) := by omega
          have HR6 := Lib.hid (J.alloc (.cells #[.int .i64 sq, .int .i64 K, .int .i64 V, .int .i64 U, .int .i64 N, .int .i64 FL, .string US, .string NM, .string TX] 45))
          have HL6 := Lib.hid (RBuf.lit1 itE wr (sq, ⟨K, V, U, N, FL, US, NM, TX⟩))
          have HM6 := Lib.hid ((R11.later (belNew wr (.cells #[.int .i64 sq, .int .i64 K, .int .i64 V, .int .i64 U, .int .i64 N, .int .i64 FL, .string US, .string NM, .string TX] 45))).here)
          have hs6 : w5.heap.size ≤ (wr.alloc (.cells #[.int .i64 sq, .int .i64 K, .int .i64 V, .int .i64 U, .int .i64 N, .int .i64 FL, .string US, .string NM, .string TX] 45)).heap.size := by have := HSZ.out; simp; omega
          have HS6 := Lib.hid hs6
          clear J R11 hs6
          obtain ⟨us, hus⟩ : ∃ us, W ++ moreT M seq k = us := ⟨_, rfl⟩
          rw [hus] at HR6 hll
          have HUS := Lib.hid hus
          clear hus
          go_wp2_with (at_builtin; refine wpList_append_rows rfl _ _ itE rfl wB.heap.size _ _ rfl HR6.out.here wr.heap.size _ [(sq, ⟨K, V, U, N, FL, US, NM, TX⟩)] rfl HL6.out (by show _ * 97 ≤ _; simp only [List.length_cons, List.length_nil]; omega) ?_; intro v6 w6 r6 g6 at6)
          exact ⟨⟨k + 1, by omega, by simp, by rw [HST.out, ← List.append_assoc, HUS.out]; exact ⟨r6.own, HR6.out.bel.grown g6 HR6.out.le (fun q hq => (HR6.out.own.lt q hq).1), r6.le⟩, HM6.out.shift g6 (by
            cases hv : (Value.slice (some ⟨gr, og, none⟩) p c11).ownBlock with
            | none => exact .inl rfl
            | some q => exact .inr (fun e => by
                have h1 := OM.out q hv
                rcases HO.out q e.symm with h2 | h2 <;> omega)), fun q hq => by
            rcases at6 with e | e
            · exact HO.out q (e ▸ hq)
            · rw [e] at hq; cases hq; exact .inr HS6.out, Nat.le_trans HS6.out g6.size⟩, by first | omega | (simp [intOf]; omega)⟩
        · have hkp : k = p := by omega
          subst hkp
          have HE : Hid (SH = W ++ moreT M seq k) := by show _ = _; rw [HSH.out, HP.out]
          clear R11
          go_wp2
          go_ret
          refine ⟨_, rfl, ?_⟩
          rw [HE.out]
          exact J.down (HBW.out.trans (J.bel.mono HBW.out.size)) HBW.out.size

end Go.Proofs.YtahebgceoidebabGreat

/- Structs as keys of maps: two texts; three numbers. -/
namespace Go.Proofs.YtahebgceoidebabGreat
open Go.RowKit
open Go.Maps (Keyed)

/-- What one cell reads as. -/
def strL (v : Value) : Option (List Lit) := match v with | .string a => if a.size ≤ maxLen then some [.string a.data.toList] else none | _ => none
def intL (v : Value) : Option (List Lit) := match v with | .int q n => if q = .i64 ∧ (Lit.int .i64 n).wf = true then some [.int .i64 n] else none | _ => none
theorem strL_inv {v : Value} {p : List Lit} (h : strL v = some p) : ∃ a, v = .string a ∧ a.size ≤ maxLen := by
  unfold strL at h
  cases v <;> simp at h
  exact ⟨_, rfl, h.1⟩
theorem intL_inv {v : Value} {p : List Lit} (h : intL v = some p) : ∃ n, v = .int .i64 n ∧ (Lit.int .i64 n).wf = true := by
  unfold intL at h
  cases v <;> simp at h
  obtain ⟨⟨rfl, h2⟩, _⟩ := h
  exact ⟨_, rfl, h2⟩
theorem strL_mk {a : ByteArray} (h : a.size ≤ maxLen) : strL (.string a) = some [.string a.data.toList] := if_pos h
theorem intL_mk {n : Int} (h : (Lit.int .i64 n).wf = true) : intL (.int .i64 n) = some [.int .i64 n] := if_pos ⟨rfl, h⟩

theorem lit_str (v : Value) (d : Nat) : Tryz.prog.keyLits (d + 1) 9 [v] = strL v := by
  unfold Program.keyLits
  rw [Tryz.underlying9]
  cases v <;> rfl
theorem lit_int (v : Value) (d : Nat) : Tryz.prog.keyLits (d + 1) 3 [v] = intL v := by
  unfold Program.keyLits
  rw [Tryz.underlying3]
  cases v <;> rfl
theorem many_types : ∃ d, Tryz.prog.types.size + 1 = d + 2 := ⟨Tryz.prog.types.size - 1, by have h : (0 : Nat) < Tryz.prog.types.size := of_decide_eq_true (by kernel_rfl); omega⟩


theorem sj_lits (x y z : Value) (d : Nat) : Tryz.prog.keyLits (d + 2) 66 [x, y, z] = (intL x).bind fun p => (intL y).bind fun q => (intL z).map fun r => p ++ (q ++ r) := by
  have hc : Tryz.prog.cellsOf 66 = 3 := by kernel_rfl
  have hs : Tryz.prog.cellsOf 3 = 1 := by kernel_rfl
  unfold Program.keyLits
  rw [Tryz.underlying66]
  simp only [List.length_cons, List.length_nil, hc]
  simp [hs, lit_int]
  cases intL x <;> cases intL y <;> cases intL z <;> simp
theorem sj_formed (x y z : Value) : (Value.agg #[x, y, z]).formed Tryz.prog 66 = true := by
  have hc : Tryz.prog.cellsOf 66 = 3 := by kernel_rfl
  simp [Value.formed, Tryz.underlying66, hc]
set_option maxRecDepth 100000 in
def sjK : KeyE Tryz.prog (Int × Int × Int) where
  ty := 66
  law := Keyed.of_law (deep_law_laid (show laidOutB Tryz.prog = true by kernel_rfl) (m := 2) (by omega) (of_decide_eq_true (by kernel_rfl)) (by kernel_rfl) (by rw [Tryz.underlying66]))
  val := fun x => .agg #[.int .i64 x.1, .int .i64 x.2.1, .int .i64 x.2.2]
  lit := fun x => .string (keyBytes [.int .i64 x.1, .int .i64 x.2.1, .int .i64 x.2.2])
  ok := fun x => (Lit.int .i64 x.1).wf = true ∧ (Lit.int .i64 x.2.1).wf = true ∧ (Lit.int .i64 x.2.2).wf = true
  key := fun x hx => by
    obtain ⟨d, hd⟩ := many_types
    unfold keyOf
    rw [Tryz.underlying66]
    have h1 : Tryz.prog.keyType 66 = true := by kernel_rfl
    simp only [h1, sj_formed, Bool.and_self, if_true, hd]
    show Option.map _ (Tryz.prog.keyLits (d + 2) _ [.int .i64 x.1, .int .i64 x.2.1, .int .i64 x.2.2]) = _
    rw [sj_lits, intL_mk hx.1, intL_mk hx.2.1, intL_mk hx.2.2]
    rfl
  inv := fun v l hv => by
    obtain ⟨d, hd⟩ := many_types
    have hc : Tryz.prog.cellsOf 66 = 3 := by kernel_rfl
    unfold keyOf at hv
    rw [Tryz.underlying66] at hv
    simp only [hd] at hv
    split at hv
    · rename_i hf
      have hf2 := (Bool.and_eq_true _ _ ▸ hf).2
      cases v with
      | agg cs =>
        simp [Value.formed, Tryz.underlying66, hc] at hf2
        obtain ⟨cl⟩ := cs
        have h2 : cl.length = 3 := hf2
        match cl, h2 with
        | [x, y, z], _ =>
          change Option.map _ (Tryz.prog.keyLits (d + 2) _ [x, y, z]) = _ at hv
          rw [sj_lits] at hv
          cases h3 : intL x with
          | none => rw [h3] at hv; cases hv
          | some p =>
            cases h4 : intL y with
            | none => rw [h3, h4] at hv; cases hv
            | some q =>
              cases h5 : intL z with
              | none => rw [h3, h4, h5] at hv; cases hv
              | some r =>
                obtain ⟨a, rfl, ha⟩ := intL_inv h3
                obtain ⟨b, rfl, hb⟩ := intL_inv h4
                obtain ⟨c, rfl, hc⟩ := intL_inv h5
                exact ⟨(a, b, c), ⟨ha, hb, hc⟩, rfl⟩
      | _ => simp [Value.formed, Tryz.underlying66] at hf2
    · cases hv
  inj := fun x y e => by
    obtain ⟨a, b, c⟩ := x
    obtain ⟨p, q, r⟩ := y
    simp at e
    obtain ⟨rfl, rfl, rfl⟩ := e
    rfl

end Go.Proofs.YtahebgceoidebabGreat

/- Records: what the program's WordOk hands back, the rights of its five kinds of records, and records told apart and back. -/
namespace Go.Proofs.YtahebgceoidebabGreat
open Go.RowKit

set_option maxRecDepth 100000 in
set_option maxHeartbeats 1000000 in
theorem implWordOk_any (s : ByteArray) (w : World) :
    Calls Tryz.prog 125 #[.string s] w fun e w' => e = .returned (.bool (decide (wdOk s))) ∧ Below w.heap.size w w' := by
  by_cases hin : 1 ≤ s.size ∧ s.size ≤ 8
  · obtain ⟨hin1, hin2⟩ := hin
    have h1 : ¬ (s.size : Int) < 1 := by omega
    have h2 : ¬ (8 : Int) < (s.size : Int) := by omega
    have hconv : ∀ wx, (convert 9 72 (.string s)).run Tryz.prog wx = .ok (.slice (some ⟨wx.heap.size, 0, none⟩) s.size (grownCap wx s.size 0 5)) (Lib.bytesWorld wx 5 s) :=
      fun wx => Lib.run_convert_string_bytes (P := Tryz.prog) wx 9 72 5 s Tryz.underlying9 Tryz.underlying72 Tryz.underlying5
    have hbel : Below w.heap.size w (Lib.bytesWorld w 5 s) :=
      (Below.refl _ _).grown (⟨rfl, rfl, rfl, by rw [Lib.bytesWorld_size]; omega, fun k hk _ => Lib.bytesWorld_at_old w 5 s k hk⟩ : w.grownBy (Lib.bytesWorld w 5 s) none) (Nat.le_refl _) (fun k hk => by cases hk)
    obtain ⟨o, ho1, ho2⟩ := bytes_block w s
    have hcells := ho2 _ ho1
    go_enter Tryz.func125, Tryz.ntmps125
    go_wp2
    clear hconv ho1 ho2
    generalize hbw : Lib.bytesWorld w 5 s = w2 at *
    clear hbw
    go_loop [16] (fun iv => ∃ i : Nat, i ≤ s.size ∧ iv = .int .i64 (i : Int) ∧ ∀ j (hj : j < s.size), j < i → 97 ≤ s[j].toNat ∧ s[j].toNat ≤ 122) (fun iv => s.size - (intOf iv).toNat)
    case atStart => exact ⟨0, by omega, rfl, fun j _ hj => by omega⟩
    case round =>
      obtain ⟨i, hi, rfl, hall⟩ := hrel
      have HA := Lib.hid hall
      clear hall
      by_cases hlt : i < s.size
      · have hlt' : (i : Int) < (s.size : Int) := by omega
        have hcell := hcells i hlt
        have HB : Hid (¬ (97 ≤ s[i].toNat ∧ s[i].toNat ≤ 122) → decide (wdOk s) = false) := fun h => decide_eq_false (fun hw => h (hw.2 _ (by
          show s.data[i] ∈ s.data.toList
          exact Array.getElem_mem_toList _)))
        have HN : Hid (97 ≤ s[i].toNat ∧ s[i].toNat ≤ 122 → ∀ j (hj : j < s.size), j < i + 1 → 97 ≤ s[j].toNat ∧ s[j].toNat ≤ 122) := by
          intro h j hj hji
          by_cases e : j = i
          · subst e; exact h
          · exact HA.out j hj (by omega)
        clear hcells
        generalize s[i].toNat = c at hcell HB HN
        by_cases q1 : c < 97
        · have q1' : (c : Int) < 97 := by omega
          go_wp2
          go_ret
          exact ⟨by rw [HB.out (by omega)]; rfl, hbel⟩
        · have q1' : ¬ (c : Int) < 97 := by omega
          by_cases q2 : 122 < c
          · have q2' : (122 : Int) < (c : Int) := by omega
            go_wp2
            go_ret
            exact ⟨by rw [HB.out (by omega)]; rfl, hbel⟩
          · have q2' : ¬ (122 : Int) < (c : Int) := by omega
            go_wp2
            go_round
            case rel => exact ⟨i + 1, by omega, by go_num, HN.out ⟨by omega, by omega⟩⟩
            case measure => simp [intOf]; omega
      · have hge : ¬ (i : Int) < (s.size : Int) := by omega
        have HE : Hid (decide (wdOk s) = true) := show _ = _ from decide_eq_true ⟨⟨hin1, hin2⟩, fun b hb => by
          obtain ⟨j, hj, rfl⟩ := List.getElem_of_mem hb
          have hj2 : j < s.size := by rw [← tl_len]; exact hj
          exact HA.out j hj2 (by omega)⟩
        clear hcells
        go_wp2
        go_ret
        exact ⟨by rw [HE.out]; rfl, hbel⟩
  · have hd : Hid (decide (wdOk s) = false) := show _ = _ from decide_eq_false (fun h => hin h.1)
    by_cases h1 : (s.size : Int) < 1
    · go_enter Tryz.func125, Tryz.ntmps125
      go_wp2
      go_ret
      exact ⟨by rw [hd.out]; rfl, Below.refl _ _⟩
    · have h2 : (8 : Int) < (s.size : Int) := by omega
      go_enter Tryz.func125, Tryz.ntmps125
      go_wp2
      go_ret
      exact ⟨by rw [hd.out]; rfl, Below.refl _ _⟩

theorem validOk_yes (n : Int) (w : World) (h1 : 1 ≤ n) (h2 : n ≤ 9999) : Calls Tryz.prog 123 #[.int .i64 n] w fun e w' => e = .returned (.bool true) ∧ w = w' := by
  go_enter Tryz.func123, Tryz.ntmps123
  go_wp2
  go_ret
  simp
theorem validOk_no (n : Int) (w : World) (h : ¬ (1 ≤ n ∧ n ≤ 9999)) : Calls Tryz.prog 123 #[.int .i64 n] w fun e w' => e = .returned (.bool false) ∧ w = w' := by
  by_cases h1 : 1 ≤ n
  · have h2 : ¬ n ≤ 9999 := fun h2 => h ⟨h1, h2⟩
    go_enter Tryz.func123, Tryz.ntmps123
    go_wp2
    go_ret
    simp
  · go_enter Tryz.func123, Tryz.ntmps123
    go_wp2
    go_ret
    simp
theorem flagsOk_any (n : Int) (w : World) : Calls Tryz.prog 128 #[.int .i64 n] w fun e w' => e = .returned (.bool (decide (0 ≤ n ∧ n ≤ 7))) ∧ w = w' := by
  by_cases h1 : 0 ≤ n
  · have e : decide (0 ≤ n ∧ n ≤ 7) = decide (n ≤ 7) := by simp [h1]
    rw [e]
    go_enter Tryz.func128, Tryz.ntmps128
    go_wp2
    go_ret
    simp
  · have e : decide (0 ≤ n ∧ n ≤ 7) = false := by simp [h1]
    rw [e]
    go_enter Tryz.func128, Tryz.ntmps128
    go_wp2
    go_ret
    simp

/-- What the five kinds of records ask for. -/
def bxP (v n : Int) (u m : ByteArray) : Prop := (1 ≤ v ∧ v ≤ 9999) ∧ (1 ≤ n ∧ n ≤ 10000) ∧ wdOk u ∧ wdOk m
instance (v n : Int) (u m : ByteArray) : Decidable (bxP v n u m) := by unfold bxP; infer_instance
def adP (v u f : Int) (t : ByteArray) : Prop := (1 ≤ v ∧ v ≤ 9999) ∧ (1 ≤ u ∧ u ≤ 9999) ∧ (0 ≤ f ∧ f ≤ 7) ∧ t.size ≤ 100
instance (v u f : Int) (t : ByteArray) : Decidable (adP v u f t) := by unfold adP; infer_instance
def flP (v u f : Int) : Prop := (1 ≤ v ∧ v ≤ 9999) ∧ (1 ≤ u ∧ u ≤ 9999) ∧ (0 ≤ f ∧ f ≤ 7)
instance (v u f : Int) : Decidable (flP v u f) := by unfold flP; infer_instance
def goP (v u : Int) : Prop := (1 ≤ v ∧ v ≤ 9999) ∧ (1 ≤ u ∧ u ≤ 9999)
instance (v u : Int) : Decidable (goP v u) := by unfold goP; infer_instance

theorem nextOk_any (n : Int) (w : World) : Calls Tryz.prog 124 #[.int .i64 n] w fun e w' => e = .returned (.bool (decide (1 ≤ n ∧ n ≤ 10000))) ∧ w = w' := by
  by_cases h1 : 1 ≤ n
  · have e : decide (1 ≤ n ∧ n ≤ 10000) = decide (n ≤ 10000) := by simp [h1]
    rw [e]
    go_enter Tryz.func124, Tryz.ntmps124
    go_wp2
    go_ret
    simp
  · have e : decide (1 ≤ n ∧ n ≤ 10000) = false := by simp [h1]
    rw [e]
    go_enter Tryz.func124, Tryz.ntmps124
    go_wp2
    go_ret
    simp
theorem nextOk_yes (n : Int) (w : World) (h1 : 1 ≤ n) (h2 : n ≤ 10000) : Calls Tryz.prog 124 #[.int .i64 n] w fun e w' => e = .returned (.bool true) ∧ w = w' := by
  have h := nextOk_any n w
  rwa [decide_eq_true (show 1 ≤ n ∧ n ≤ 10000 from ⟨h1, h2⟩)] at h
theorem nextOk_no (n : Int) (w : World) (h1 : ¬ (1 ≤ n ∧ n ≤ 10000)) : Calls Tryz.prog 124 #[.int .i64 n] w fun e w' => e = .returned (.bool false) ∧ w = w' := by
  have h := nextOk_any n w
  rwa [decide_eq_false h1] at h

set_option maxRecDepth 100000 in
set_option maxHeartbeats 1000000 in
theorem boxRight_any (v n : Int) (u m : ByteArray) (w : World) :
    Calls Tryz.prog 122 #[.agg #[.int .i64 v, .int .i64 n, .string u, .string m]] w fun e w' => e = .returned (.bool (decide (bxP v n u m))) ∧ Below w.heap.size w w' := by
  have bx := Box.new w #[.int .i64 v, .int .i64 n, .string u, .string m] 118
  have b0 : Below w.heap.size w (w.alloc (.cells #[.int .i64 v, .int .i64 n, .string u, .string m] 118)) := (Below.refl _ _).alloc (Nat.le_refl _) _
  have c0 := bx.cell 0 _ rfl
  have c1 := bx.cell 1 _ rfl
  have c2 := bx.cell 2 _ rfl
  have c3 := bx.cell 3 _ rfl
  have BX := Lib.hid bx
  clear bx
  by_cases hv : 1 ≤ v ∧ v ≤ 9999
  · by_cases hn : 1 ≤ n ∧ n ≤ 10000
    · by_cases hu : wdOk u
      · have HE : Hid (decide (bxP v n u m) = decide (wdOk m)) := show _ = _ from decide_eq_decide.2 ⟨fun h => h.2.2.2, fun h => ⟨hv, hn, hu, h⟩⟩
        have HU : Hid (decide (wdOk u) = true) := show _ = _ from decide_eq_true hu
        have HV := Lib.hid hv
        have HN := Lib.hid hn
        clear hu hv hn
        go_enter Tryz.func122, Tryz.ntmps122
        go_wp2_with (first | (go_at_call 123; refine (validOk_yes _ _ HV.out.1 HV.out.2).mono ?_; rintro e w5 ⟨rfl, rfl⟩) | (go_at_call 124; refine (nextOk_yes _ _ HN.out.1 HN.out.2).mono ?_; rintro e w5 ⟨rfl, rfl⟩) | (go_at_call 125; refine (implWordOk_any _ _).mono ?_; rintro e w5 ⟨rfl, hb5⟩; rw [HU.out]; have c3' := (BX.out.later hb5).cell 3 _ rfl) | (go_at_call 125; refine (implWordOk_any _ _).mono ?_; rintro e w6 ⟨rfl, hb6⟩))
        go_ret
        exact ⟨by rw [HE.out]; rfl, (b0.trans (hb5.mono b0.size)).trans (hb6.mono ((b0.trans (hb5.mono b0.size)).size))⟩
      · have HE : Hid (decide (bxP v n u m) = false) := show _ = _ from decide_eq_false fun h => hu h.2.2.1
        have HU : Hid (decide (wdOk u) = false) := show _ = _ from decide_eq_false hu
        have HV := Lib.hid hv
        have HN := Lib.hid hn
        clear hu hv hn
        go_enter Tryz.func122, Tryz.ntmps122
        go_wp2_with (first | (go_at_call 123; refine (validOk_yes _ _ HV.out.1 HV.out.2).mono ?_; rintro e w5 ⟨rfl, rfl⟩) | (go_at_call 124; refine (nextOk_yes _ _ HN.out.1 HN.out.2).mono ?_; rintro e w5 ⟨rfl, rfl⟩) | (go_at_call 125; refine (implWordOk_any _ _).mono ?_; rintro e w5 ⟨rfl, hb5⟩; rw [HU.out]))
        go_ret
        exact ⟨by rw [HE.out]; rfl, b0.trans (hb5.mono b0.size)⟩
    · have HE : Hid (decide (bxP v n u m) = false) := show _ = _ from decide_eq_false fun h => hn h.2.1
      have HV := Lib.hid hv
      have HN := Lib.hid hn
      clear hv hn
      go_enter Tryz.func122, Tryz.ntmps122
      go_wp2_with (first | (go_at_call 123; refine (validOk_yes _ _ HV.out.1 HV.out.2).mono ?_; rintro e w5 ⟨rfl, rfl⟩) | (go_at_call 124; refine (nextOk_no _ _ HN.out).mono ?_; rintro e w5 ⟨rfl, rfl⟩))
      go_ret
      exact ⟨by rw [HE.out]; rfl, b0⟩
  · have HE : Hid (decide (bxP v n u m) = false) := show _ = _ from decide_eq_false fun h => hv h.1
    have HV := Lib.hid hv
    clear hv
    go_enter Tryz.func122, Tryz.ntmps122
    go_wp2_with (go_at_call 123; refine (validOk_no _ _ HV.out).mono ?_; rintro e w5 ⟨rfl, rfl⟩)
    go_ret
    exact ⟨by rw [HE.out]; rfl, b0⟩

set_option maxRecDepth 100000 in
set_option maxHeartbeats 1000000 in
theorem dropRight_any (v : Int) (w : World) :
    Calls Tryz.prog 126 #[.agg #[.int .i64 v]] w fun e w' => e = .returned (.bool (decide (1 ≤ v ∧ v ≤ 9999))) ∧ Below w.heap.size w w' := by
  have bx := Box.new w #[.int .i64 v] 120
  have b0 : Below w.heap.size w (w.alloc (.cells #[.int .i64 v] 120)) := (Below.refl _ _).alloc (Nat.le_refl _) _
  have c0 := bx.cell 0 _ rfl
  clear bx
  by_cases hv : 1 ≤ v ∧ v ≤ 9999
  · rw [decide_eq_true hv]
    go_enter Tryz.func126, Tryz.ntmps126
    go_wp2_with (go_at_call 123; first | (refine (validOk_yes _ _ (by omega) (by omega)).mono ?_; rintro e w5 ⟨rfl, rfl⟩) | (refine (validOk_no _ _ (by omega)).mono ?_; rintro e w5 ⟨rfl, rfl⟩))
    go_ret
    exact ⟨rfl, b0⟩
  · rw [decide_eq_false hv]
    go_enter Tryz.func126, Tryz.ntmps126
    go_wp2_with (go_at_call 123; first | (refine (validOk_yes _ _ (by omega) (by omega)).mono ?_; rintro e w5 ⟨rfl, rfl⟩) | (refine (validOk_no _ _ (by omega)).mono ?_; rintro e w5 ⟨rfl, rfl⟩))
    go_ret
    exact ⟨rfl, b0⟩

set_option maxRecDepth 100000 in
set_option maxHeartbeats 1000000 in
theorem goneRight_any (v u : Int) (w : World) :
    Calls Tryz.prog 130 #[.agg #[.int .i64 v, .int .i64 u]] w fun e w' => e = .returned (.bool (decide (goP v u))) ∧ Below w.heap.size w w' := by
  have bx := Box.new w #[.int .i64 v, .int .i64 u] 126
  have b0 : Below w.heap.size w (w.alloc (.cells #[.int .i64 v, .int .i64 u] 126)) := (Below.refl _ _).alloc (Nat.le_refl _) _
  have c0 := bx.cell 0 _ rfl
  have c1 := bx.cell 1 _ rfl
  clear bx
  by_cases hv : 1 ≤ v ∧ v ≤ 9999
  · by_cases hu : 1 ≤ u ∧ u ≤ 9999
    · rw [decide_eq_true (show goP v u from ⟨hv, hu⟩)]
      go_enter Tryz.func130, Tryz.ntmps130
      go_wp2_with (go_at_call 123; first | (refine (validOk_yes _ _ (by omega) (by omega)).mono ?_; rintro e w5 ⟨rfl, rfl⟩) | (refine (validOk_no _ _ (by omega)).mono ?_; rintro e w5 ⟨rfl, rfl⟩))
      go_ret
      exact ⟨rfl, b0⟩
    · rw [decide_eq_false (show ¬ goP v u from fun h => hu h.2)]
      go_enter Tryz.func130, Tryz.ntmps130
      go_wp2_with (go_at_call 123; first | (refine (validOk_yes _ _ (by omega) (by omega)).mono ?_; rintro e w5 ⟨rfl, rfl⟩) | (refine (validOk_no _ _ (by omega)).mono ?_; rintro e w5 ⟨rfl, rfl⟩))
      go_ret
      exact ⟨rfl, b0⟩
  · rw [decide_eq_false (show ¬ goP v u from fun h => hv h.1)]
    go_enter Tryz.func130, Tryz.ntmps130
    go_wp2_with (go_at_call 123; first | (refine (validOk_yes _ _ (by omega) (by omega)).mono ?_; rintro e w5 ⟨rfl, rfl⟩) | (refine (validOk_no _ _ (by omega)).mono ?_; rintro e w5 ⟨rfl, rfl⟩))
    go_ret
    exact ⟨rfl, b0⟩

set_option maxRecDepth 100000 in
set_option maxHeartbeats 1000000 in
theorem flagRight_any (v u f : Int) (w : World) :
    Calls Tryz.prog 129 #[.agg #[.int .i64 v, .int .i64 u, .int .i64 f]] w fun e w' => e = .returned (.bool (decide (flP v u f))) ∧ Below w.heap.size w w' := by
  have bx := Box.new w #[.int .i64 v, .int .i64 u, .int .i64 f] 124
  have b0 : Below w.heap.size w (w.alloc (.cells #[.int .i64 v, .int .i64 u, .int .i64 f] 124)) := (Below.refl _ _).alloc (Nat.le_refl _) _
  have c0 := bx.cell 0 _ rfl
  have c1 := bx.cell 1 _ rfl
  have c2 := bx.cell 2 _ rfl
  clear bx
  by_cases hv : 1 ≤ v ∧ v ≤ 9999
  · by_cases hu : 1 ≤ u ∧ u ≤ 9999
    · have HF : Hid (decide (0 ≤ f ∧ f ≤ 7) = decide (flP v u f)) := show _ = _ from decide_eq_decide.2 ⟨fun h => ⟨hv, hu, h⟩, fun h => h.2.2⟩
      go_enter Tryz.func129, Tryz.ntmps129
      go_wp2_with (first | (go_at_call 123; first | (refine (validOk_yes _ _ (by omega) (by omega)).mono ?_; rintro e w5 ⟨rfl, rfl⟩) | (refine (validOk_no _ _ (by omega)).mono ?_; rintro e w5 ⟨rfl, rfl⟩)) | (go_at_call 128; refine (flagsOk_any _ _).mono ?_; rintro e w5 ⟨rfl, rfl⟩; try rw [HF.out]))
      go_ret
      exact ⟨rfl, b0⟩
    · rw [decide_eq_false (show ¬ flP v u f from fun h => hu h.2.1)]
      go_enter Tryz.func129, Tryz.ntmps129
      go_wp2_with (go_at_call 123; first | (refine (validOk_yes _ _ (by omega) (by omega)).mono ?_; rintro e w5 ⟨rfl, rfl⟩) | (refine (validOk_no _ _ (by omega)).mono ?_; rintro e w5 ⟨rfl, rfl⟩))
      go_ret
      exact ⟨rfl, b0⟩
  · rw [decide_eq_false (show ¬ flP v u f from fun h => hv h.1)]
    go_enter Tryz.func129, Tryz.ntmps129
    go_wp2_with (go_at_call 123; first | (refine (validOk_yes _ _ (by omega) (by omega)).mono ?_; rintro e w5 ⟨rfl, rfl⟩) | (refine (validOk_no _ _ (by omega)).mono ?_; rintro e w5 ⟨rfl, rfl⟩))
    go_ret
    exact ⟨rfl, b0⟩

set_option maxRecDepth 100000 in
set_option maxHeartbeats 1000000 in
theorem addRight_any (v u f : Int) (t : ByteArray) (w : World) :
    Calls Tryz.prog 127 #[.agg #[.int .i64 v, .int .i64 u, .int .i64 f, .string t]] w fun e w' => e = .returned (.bool (decide (adP v u f t))) ∧ Below w.heap.size w w' := by
  have bx := Box.new w #[.int .i64 v, .int .i64 u, .int .i64 f, .string t] 122
  have b0 : Below w.heap.size w (w.alloc (.cells #[.int .i64 v, .int .i64 u, .int .i64 f, .string t] 122)) := (Below.refl _ _).alloc (Nat.le_refl _) _
  have c0 := bx.cell 0 _ rfl
  have c1 := bx.cell 1 _ rfl
  have c2 := bx.cell 2 _ rfl
  have c3 := bx.cell 3 _ rfl
  clear bx
  by_cases hv : 1 ≤ v ∧ v ≤ 9999
  · by_cases hu : 1 ≤ u ∧ u ≤ 9999
    · by_cases hf : 0 ≤ f ∧ f ≤ 7
      · have HF : Hid (decide (0 ≤ f ∧ f ≤ 7) = true) := show _ = _ from decide_eq_true hf
        have HE : Hid (decide (adP v u f t) = decide ((t.size : Int) ≤ 100)) := show _ = _ from decide_eq_decide.2 ⟨fun h => by have := h.2.2.2; omega, fun h => ⟨hv, hu, hf, by omega⟩⟩
        clear hf
        go_enter Tryz.func127, Tryz.ntmps127
        go_wp2_with (first | (go_at_call 123; first | (refine (validOk_yes _ _ (by omega) (by omega)).mono ?_; rintro e w5 ⟨rfl, rfl⟩) | (refine (validOk_no _ _ (by omega)).mono ?_; rintro e w5 ⟨rfl, rfl⟩)) | (go_at_call 128; refine (flagsOk_any _ _).mono ?_; rintro e w5 ⟨rfl, rfl⟩; try rw [HF.out]))
        go_ret
        exact ⟨by rw [HE.out]; rfl, b0⟩
      · have HF : Hid (decide (0 ≤ f ∧ f ≤ 7) = false) := show _ = _ from decide_eq_false hf
        rw [decide_eq_false (show ¬ adP v u f t from fun h => hf h.2.2.1)]
        clear hf
        go_enter Tryz.func127, Tryz.ntmps127
        go_wp2_with (first | (go_at_call 123; first | (refine (validOk_yes _ _ (by omega) (by omega)).mono ?_; rintro e w5 ⟨rfl, rfl⟩) | (refine (validOk_no _ _ (by omega)).mono ?_; rintro e w5 ⟨rfl, rfl⟩)) | (go_at_call 128; refine (flagsOk_any _ _).mono ?_; rintro e w5 ⟨rfl, rfl⟩; try rw [HF.out]))
        go_ret
        exact ⟨rfl, b0⟩
    · rw [decide_eq_false (show ¬ adP v u f t from fun h => hu h.2.1)]
      go_enter Tryz.func127, Tryz.ntmps127
      go_wp2_with (go_at_call 123; first | (refine (validOk_yes _ _ (by omega) (by omega)).mono ?_; rintro e w5 ⟨rfl, rfl⟩) | (refine (validOk_no _ _ (by omega)).mono ?_; rintro e w5 ⟨rfl, rfl⟩))
      go_ret
      exact ⟨rfl, b0⟩
  · rw [decide_eq_false (show ¬ adP v u f t from fun h => hv h.1)]
    go_enter Tryz.func127, Tryz.ntmps127
    go_wp2_with (go_at_call 123; first | (refine (validOk_yes _ _ (by omega) (by omega)).mono ?_; rintro e w5 ⟨rfl, rfl⟩) | (refine (validOk_no _ _ (by omega)).mono ?_; rintro e w5 ⟨rfl, rfl⟩))
    go_ret
    exact ⟨rfl, b0⟩

set_option maxRecDepth 100000 in
set_option maxHeartbeats 1000000 in
theorem recordOf_1 (r : Rc) (w : World) (hk : r.kind = 1) :
    Calls Tryz.prog 64 #[r.v] w fun e w' => e = .returned (.tuple #[.iface 118 (.agg #[.int .i64 r.valid, .int .i64 r.next, .string r.user, .string r.name]), .bool true]) ∧ Below w.heap.size w w' := by
  obtain ⟨c0, c1, c2, c3, c4, c5, c6, c7⟩ := (Box.new w r.cs 43).rec
  have b0 : Below w.heap.size w (w.alloc (.cells r.cs 43)) := (Below.refl _ _).alloc (Nat.le_refl _) _
  have k1 : (r.kind == 1) = true := by rw [hk]; rfl
  clear hk
  unfold Rc.v
  unfold Rc.cs at *
  go_enter Tryz.func64, Tryz.ntmps64
  go_wp2
  go_ret2
  exact ⟨rfl, b0⟩

set_option maxRecDepth 100000 in
set_option maxHeartbeats 1000000 in
theorem recordOf_2 (r : Rc) (w : World) (hk : r.kind = 2) :
    Calls Tryz.prog 64 #[r.v] w fun e w' => e = .returned (.tuple #[.iface 120 (.agg #[.int .i64 r.valid]), .bool true]) ∧ Below w.heap.size w w' := by
  obtain ⟨c0, c1, c2, c3, c4, c5, c6, c7⟩ := (Box.new w r.cs 43).rec
  have b0 : Below w.heap.size w (w.alloc (.cells r.cs 43)) := (Below.refl _ _).alloc (Nat.le_refl _) _
  have k1 : (r.kind == 1) = false := by rw [hk]; rfl
  have k2 : (r.kind == 2) = true := by rw [hk]; rfl
  clear hk
  unfold Rc.v
  unfold Rc.cs at *
  go_enter Tryz.func64, Tryz.ntmps64
  go_wp2
  go_ret2
  exact ⟨rfl, b0⟩

set_option maxRecDepth 100000 in
set_option maxHeartbeats 1000000 in
theorem recordOf_3 (r : Rc) (w : World) (hk : r.kind = 3) :
    Calls Tryz.prog 64 #[r.v] w fun e w' => e = .returned (.tuple #[.iface 122 (.agg #[.int .i64 r.valid, .int .i64 r.uid, .int .i64 r.flags, .string r.text]), .bool true]) ∧ Below w.heap.size w w' := by
  obtain ⟨c0, c1, c2, c3, c4, c5, c6, c7⟩ := (Box.new w r.cs 43).rec
  have b0 : Below w.heap.size w (w.alloc (.cells r.cs 43)) := (Below.refl _ _).alloc (Nat.le_refl _) _
  have k1 : (r.kind == 1) = false := by rw [hk]; rfl
  have k2 : (r.kind == 2) = false := by rw [hk]; rfl
  have k3 : (r.kind == 3) = true := by rw [hk]; rfl
  clear hk
  unfold Rc.v
  unfold Rc.cs at *
  go_enter Tryz.func64, Tryz.ntmps64
  go_wp2
  go_ret2
  exact ⟨rfl, b0⟩

set_option maxRecDepth 100000 in
set_option maxHeartbeats 1000000 in
theorem recordOf_4 (r : Rc) (w : World) (hk : r.kind = 4) :
    Calls Tryz.prog 64 #[r.v] w fun e w' => e = .returned (.tuple #[.iface 124 (.agg #[.int .i64 r.valid, .int .i64 r.uid, .int .i64 r.flags]), .bool true]) ∧ Below w.heap.size w w' := by
  obtain ⟨c0, c1, c2, c3, c4, c5, c6, c7⟩ := (Box.new w r.cs 43).rec
  have b0 : Below w.heap.size w (w.alloc (.cells r.cs 43)) := (Below.refl _ _).alloc (Nat.le_refl _) _
  have k1 : (r.kind == 1) = false := by rw [hk]; rfl
  have k2 : (r.kind == 2) = false := by rw [hk]; rfl
  have k3 : (r.kind == 3) = false := by rw [hk]; rfl
  have k4 : (r.kind == 4) = true := by rw [hk]; rfl
  clear hk
  unfold Rc.v
  unfold Rc.cs at *
  go_enter Tryz.func64, Tryz.ntmps64
  go_wp2
  go_ret2
  exact ⟨rfl, b0⟩

set_option maxRecDepth 100000 in
set_option maxHeartbeats 1000000 in
theorem recordOf_5 (r : Rc) (w : World) (hk : r.kind = 5) :
    Calls Tryz.prog 64 #[r.v] w fun e w' => e = .returned (.tuple #[.iface 126 (.agg #[.int .i64 r.valid, .int .i64 r.uid]), .bool true]) ∧ Below w.heap.size w w' := by
  obtain ⟨c0, c1, c2, c3, c4, c5, c6, c7⟩ := (Box.new w r.cs 43).rec
  have b0 : Below w.heap.size w (w.alloc (.cells r.cs 43)) := (Below.refl _ _).alloc (Nat.le_refl _) _
  have k1 : (r.kind == 1) = false := by rw [hk]; rfl
  have k2 : (r.kind == 2) = false := by rw [hk]; rfl
  have k3 : (r.kind == 3) = false := by rw [hk]; rfl
  have k4 : (r.kind == 4) = false := by rw [hk]; rfl
  have k5 : (r.kind == 5) = true := by rw [hk]; rfl
  clear hk
  unfold Rc.v
  unfold Rc.cs at *
  go_enter Tryz.func64, Tryz.ntmps64
  go_wp2
  go_ret2
  exact ⟨rfl, b0⟩

set_option maxRecDepth 100000 in
set_option maxHeartbeats 1000000 in
theorem recordOf_no (r : Rc) (w : World) (hk : ¬ (1 ≤ r.kind ∧ r.kind ≤ 5)) :
    Calls Tryz.prog 64 #[r.v] w fun e w' => e = .returned (.tuple #[.nilIface, .bool false]) ∧ Below w.heap.size w w' := by
  obtain ⟨c0, c1, c2, c3, c4, c5, c6, c7⟩ := (Box.new w r.cs 43).rec
  have b0 : Below w.heap.size w (w.alloc (.cells r.cs 43)) := (Below.refl _ _).alloc (Nat.le_refl _) _
  have k1 : (r.kind == 1) = false := beq_eq_false_iff_ne.2 (by omega)
  have k2 : (r.kind == 2) = false := beq_eq_false_iff_ne.2 (by omega)
  have k3 : (r.kind == 3) = false := beq_eq_false_iff_ne.2 (by omega)
  have k4 : (r.kind == 4) = false := beq_eq_false_iff_ne.2 (by omega)
  have k5 : (r.kind == 5) = false := beq_eq_false_iff_ne.2 (by omega)
  clear hk
  unfold Rc.v
  unfold Rc.cs at *
  go_enter Tryz.func64, Tryz.ntmps64
  go_wp2
  go_ret2
  exact ⟨rfl, b0⟩

end Go.Proofs.YtahebgceoidebabGreat

/- Records: what the program's recOf tells back. -/
namespace Go.Proofs.YtahebgceoidebabGreat
open Go.RowKit

set_option maxRecDepth 100000 in
set_option maxHeartbeats 1000000 in
theorem recOf_1 (v n : Int) (u m : ByteArray) (w : World) :
    Calls Tryz.prog 65 #[.iface 118 (.agg #[.int .i64 v, .int .i64 n, .string u, .string m])] w fun e w' => e = .returned (Rc.v ⟨1, v, 0, n, 0, u, m, emp⟩) ∧ Below w.heap.size w w' := by
  have t1 : ∀ wx, (Instr.typeAssert (.iface 118 (.agg #[.int .i64 v, .int .i64 n, .string u, .string m])) 103 118 true).run Tryz.prog wx = .ok (.tuple #[.agg #[.int .i64 v, .int .i64 n, .string u, .string m], .bool true]) wx := fun _ => by kernel_rfl
  go_enter Tryz.func65, Tryz.ntmps65
  go_wp2
  refine bodyPost_ret (v := Rc.v ⟨1, v, 0, n, 0, u, m, emp⟩) (by simp [results, Tryz.results65, go_sem, Rc.v, emp]) rfl ?_
  exact ⟨rfl, ((Below.refl _ _).alloc (Nat.le_refl _) _).alloc (by simp) _⟩

set_option maxRecDepth 100000 in
set_option maxHeartbeats 1000000 in
theorem recOf_2 (v : Int) (w : World) :
    Calls Tryz.prog 65 #[.iface 120 (.agg #[.int .i64 v])] w fun e w' => e = .returned (Rc.v ⟨2, v, 0, 0, 0, emp, emp, emp⟩) ∧ Below w.heap.size w w' := by
  have t1 : ∀ wx, (Instr.typeAssert (.iface 120 (.agg #[.int .i64 v])) 103 118 true).run Tryz.prog wx = .ok (.tuple #[.agg #[.int .i64 0, .int .i64 0, .string ⟨#[]⟩, .string ⟨#[]⟩], .bool false]) wx := fun _ => by kernel_rfl
  have t2 : ∀ wx, (Instr.typeAssert (.iface 120 (.agg #[.int .i64 v])) 103 120 true).run Tryz.prog wx = .ok (.tuple #[.agg #[.int .i64 v], .bool true]) wx := fun _ => by kernel_rfl
  go_enter Tryz.func65, Tryz.ntmps65
  go_wp2
  refine bodyPost_ret (v := Rc.v ⟨2, v, 0, 0, 0, emp, emp, emp⟩) (by simp [results, Tryz.results65, go_sem, Rc.v, emp]) rfl ?_
  exact ⟨rfl, ((Below.refl _ _).alloc (Nat.le_refl _) _).alloc (by simp) _⟩

set_option maxRecDepth 100000 in
set_option maxHeartbeats 1000000 in
theorem recOf_3 (v u f : Int) (t : ByteArray) (w : World) :
    Calls Tryz.prog 65 #[.iface 122 (.agg #[.int .i64 v, .int .i64 u, .int .i64 f, .string t])] w fun e w' => e = .returned (Rc.v ⟨3, v, u, 0, f, emp, emp, t⟩) ∧ Below w.heap.size w w' := by
  have t1 : ∀ wx, (Instr.typeAssert (.iface 122 (.agg #[.int .i64 v, .int .i64 u, .int .i64 f, .string t])) 103 118 true).run Tryz.prog wx = .ok (.tuple #[.agg #[.int .i64 0, .int .i64 0, .string ⟨#[]⟩, .string ⟨#[]⟩], .bool false]) wx := fun _ => by kernel_rfl
  have t2 : ∀ wx, (Instr.typeAssert (.iface 122 (.agg #[.int .i64 v, .int .i64 u, .int .i64 f, .string t])) 103 120 true).run Tryz.prog wx = .ok (.tuple #[.agg #[.int .i64 0], .bool false]) wx := fun _ => by kernel_rfl
  have t3 : ∀ wx, (Instr.typeAssert (.iface 122 (.agg #[.int .i64 v, .int .i64 u, .int .i64 f, .string t])) 103 122 true).run Tryz.prog wx = .ok (.tuple #[.agg #[.int .i64 v, .int .i64 u, .int .i64 f, .string t], .bool true]) wx := fun _ => by kernel_rfl
  go_enter Tryz.func65, Tryz.ntmps65
  go_wp2
  refine bodyPost_ret (v := Rc.v ⟨3, v, u, 0, f, emp, emp, t⟩) (by simp [results, Tryz.results65, go_sem, Rc.v, emp]) rfl ?_
  exact ⟨rfl, ((Below.refl _ _).alloc (Nat.le_refl _) _).alloc (by simp) _⟩

set_option maxRecDepth 100000 in
set_option maxHeartbeats 1000000 in
theorem recOf_4 (v u f : Int) (w : World) :
    Calls Tryz.prog 65 #[.iface 124 (.agg #[.int .i64 v, .int .i64 u, .int .i64 f])] w fun e w' => e = .returned (Rc.v ⟨4, v, u, 0, f, emp, emp, emp⟩) ∧ Below w.heap.size w w' := by
  have t1 : ∀ wx, (Instr.typeAssert (.iface 124 (.agg #[.int .i64 v, .int .i64 u, .int .i64 f])) 103 118 true).run Tryz.prog wx = .ok (.tuple #[.agg #[.int .i64 0, .int .i64 0, .string ⟨#[]⟩, .string ⟨#[]⟩], .bool false]) wx := fun _ => by kernel_rfl
  have t2 : ∀ wx, (Instr.typeAssert (.iface 124 (.agg #[.int .i64 v, .int .i64 u, .int .i64 f])) 103 120 true).run Tryz.prog wx = .ok (.tuple #[.agg #[.int .i64 0], .bool false]) wx := fun _ => by kernel_rfl
  have t3 : ∀ wx, (Instr.typeAssert (.iface 124 (.agg #[.int .i64 v, .int .i64 u, .int .i64 f])) 103 122 true).run Tryz.prog wx = .ok (.tuple #[.agg #[.int .i64 0, .int .i64 0, .int .i64 0, .string ⟨#[]⟩], .bool false]) wx := fun _ => by kernel_rfl
  have t4 : ∀ wx, (Instr.typeAssert (.iface 124 (.agg #[.int .i64 v, .int .i64 u, .int .i64 f])) 103 124 true).run Tryz.prog wx = .ok (.tuple #[.agg #[.int .i64 v, .int .i64 u, .int .i64 f], .bool true]) wx := fun _ => by kernel_rfl
  go_enter Tryz.func65, Tryz.ntmps65
  go_wp2
  refine bodyPost_ret (v := Rc.v ⟨4, v, u, 0, f, emp, emp, emp⟩) (by simp [results, Tryz.results65, go_sem, Rc.v, emp]) rfl ?_
  exact ⟨rfl, ((Below.refl _ _).alloc (Nat.le_refl _) _).alloc (by simp) _⟩

set_option maxRecDepth 100000 in
set_option maxHeartbeats 1000000 in
theorem recOf_5 (v u : Int) (w : World) :
    Calls Tryz.prog 65 #[.iface 126 (.agg #[.int .i64 v, .int .i64 u])] w fun e w' => e = .returned (Rc.v ⟨5, v, u, 0, 0, emp, emp, emp⟩) ∧ Below w.heap.size w w' := by
  have t1 : ∀ wx, (Instr.typeAssert (.iface 126 (.agg #[.int .i64 v, .int .i64 u])) 103 118 true).run Tryz.prog wx = .ok (.tuple #[.agg #[.int .i64 0, .int .i64 0, .string ⟨#[]⟩, .string ⟨#[]⟩], .bool false]) wx := fun _ => by kernel_rfl
  have t2 : ∀ wx, (Instr.typeAssert (.iface 126 (.agg #[.int .i64 v, .int .i64 u])) 103 120 true).run Tryz.prog wx = .ok (.tuple #[.agg #[.int .i64 0], .bool false]) wx := fun _ => by kernel_rfl
  have t3 : ∀ wx, (Instr.typeAssert (.iface 126 (.agg #[.int .i64 v, .int .i64 u])) 103 122 true).run Tryz.prog wx = .ok (.tuple #[.agg #[.int .i64 0, .int .i64 0, .int .i64 0, .string ⟨#[]⟩], .bool false]) wx := fun _ => by kernel_rfl
  have t4 : ∀ wx, (Instr.typeAssert (.iface 126 (.agg #[.int .i64 v, .int .i64 u])) 103 124 true).run Tryz.prog wx = .ok (.tuple #[.agg #[.int .i64 0, .int .i64 0, .int .i64 0], .bool false]) wx := fun _ => by kernel_rfl
  have t5 : ∀ wx, (Instr.typeAssert (.iface 126 (.agg #[.int .i64 v, .int .i64 u])) 103 126 true).run Tryz.prog wx = .ok (.tuple #[.agg #[.int .i64 v, .int .i64 u], .bool true]) wx := fun _ => by kernel_rfl
  go_enter Tryz.func65, Tryz.ntmps65
  go_wp2
  refine bodyPost_ret (v := Rc.v ⟨5, v, u, 0, 0, emp, emp, emp⟩) (by simp [results, Tryz.results65, go_sem, Rc.v, emp]) rfl ?_
  exact ⟨rfl, ((Below.refl _ _).alloc (Nat.le_refl _) _).alloc (by simp) _⟩

instance decRcEq (a b : Rc) : Decidable (a = b) :=
  decidable_of_iff (a.kind = b.kind ∧ a.valid = b.valid ∧ a.uid = b.uid ∧ a.next = b.next ∧ a.flags = b.flags ∧ a.user = b.user ∧ a.name = b.name ∧ a.text = b.text) (by
    obtain ⟨a0, a1, a2, a3, a4, a5, a6, a7⟩ := a
    obtain ⟨b0, b1, b2, b3, b4, b5, b6, b7⟩ := b
    simp)

theorem rec_fields : Tryz.prog.underlying 43 = some (.struct (Tryz.prog.fieldsOf 43)) := by kernel_rfl

theorem ba_inj (a b : ByteArray) : a.toList = b.toList ↔ a = b := by
  have h := ba_beq a b
  constructor
  · intro e
    rw [beq_iff_eq.2 e] at h
    exact of_decide_eq_true h.symm
  · intro e; rw [e]

set_option maxRecDepth 100000 in
theorem run_rec_equal (a b : Rc) (w : World) : (Op.equalIn 10000 43 a.v b.v).run Tryz.prog w = .ok (decide (a = b)) w := by
  unfold Rc.v
  rw [run_equalIn_agg _ 9999 _ _ _ rec_fields (by kernel_rfl)]
  obtain ⟨a0, a1, a2, a3, a4, a5, a6, a7⟩ := a
  obtain ⟨b0, b1, b2, b3, b4, b5, b6, b7⟩ := b
  simp [go_sem, Op.eqFields, Tryz.underlying43, Program.fieldsOf]
  simp only [ba_inj]
  by_cases h0 : a0 = b0 <;> by_cases h1 : a1 = b1 <;> by_cases h2 : a2 = b2 <;> by_cases h3 : a3 = b3 <;> by_cases h4 : a4 = b4 <;> by_cases h5 : a5 = b5 <;> by_cases h6 : a6 = b6 <;> by_cases h7 : a7 = b7 <;> simp only [h0, h1, h2, h3, h4, h5, h6, h7, if_true, if_false, decide_true, decide_false, Bool.and_true, Bool.and_false]

theorem run_rec_eql (a b : Rc) (w : World) : (binOp .eql 43 a.v b.v).run Tryz.prog w = .ok (.bool (decide (a = b))) w := by
  have h := run_rec_equal a b w
  unfold Rc.v at h ⊢
  rw [run_eql_struct, h]; rfl
theorem run_rec_neq (a b : Rc) (w : World) : (binOp .neq 43 a.v b.v).run Tryz.prog w = .ok (.bool (!decide (a = b))) w := by
  have h := run_rec_equal a b w
  unfold Rc.v at h ⊢
  rw [run_neq_struct, h]; rfl

end Go.Proofs.YtahebgceoidebabGreat
