/- Texts of our own, joined. -/
import Derived.Test.YtieenkloiicnkaaGreatDoorJs
import Derived.Test.YtieenkloiicnkaaGreatDoorJnx
import Derived.Test.YtieenkloiicnkaaGreatDoorJox
import Derived.Test.YtieenkloiicnkaaGreatDoorJb
import Derived.Test.YtieenkloiicnkaaGreatDoorJa
import Derived.Laws.Concat
/- CheckText of the program. -/
namespace Go.Proofs.YtieenkloiicnkaaGreatDoor
open Go.RowKit

theorem byteCells_len (l : List UInt8) : (Lib.byteCells l).length = l.length := by rw [show Lib.byteCells l = bytesV l from rfl, bytesV_length]
theorem cell_heap {X Y : World} {g k : Nat} (h : X.heap[g]? = Y.heap[g]?) : X.cell? ⟨g, k, none⟩ = Y.cell? ⟨g, k, none⟩ := by simp [World.cell?, h]

theorem intE_row (l : List Int) : intE.row l = l.map (Value.int .i64) := by
  induction l with
  | nil => rfl
  | cons x t ih => rw [show intE.row (x :: t) = intE.f x ++ intE.row t from rfl, ih]; rfl
theorem RBuf.litI (w : World) (l : List Int) (hl : l.length ≤ 1000) : RBuf intE w.heap.size (w.alloc (.cells (l.map (Value.int .i64)).toArray 3)) (w.alloc (.cells (l.map (Value.int .i64)).toArray 3)) (.slice (some ⟨w.heap.size, 0, none⟩) l.length l.length) l := by
  refine ⟨?_, Below.refl _ _, by simp⟩
  have := World.ownsRow_lit (base := w.heap.size) (e := intE.ty) (size := intE.sz) w (l.map (Value.int .i64)).toArray l.length (Nat.le_refl _) (by unfold maxLen; omega) (by simp [intE])
  rw [intE_row]
  simp only at this
  exact this
set_option maxRecDepth 100000 in
set_option maxHeartbeats 4000000 in
theorem numbersOf_any (c : Ck) (a : Option Addr) (cap : Nat) (w : World) (h : Rows' rfE w (.slice a c.refs.length cap) c.refs) (hl : c.refs.length ≤ 1048576) :
    Calls Tryz.prog 121 #[.agg #[.int .i64 c.st, .int .i64 c.ng, .int .i64 c.ns, .int .i64 c.nv, .slice a c.refs.length cap]] w fun e w' => ∃ v', e = .returned v' ∧ RBuf intE w.heap.size w w' v' (ckNs c c.refs.length) := by
  obtain ⟨_, _, hv, hrow⟩ := h.refs
  cases hv
  have HR := Lib.hid hrow
  clear h hrow
  have HST := Lib.hid (fun (i : Nat) (r : Rf) (hr : c.refs[i]? = some r) => ckNs_step hr)
  have HLN := Lib.hid (ckNs_len c)
  have HZ : Hid (ckNs c 0 = [c.st, c.ng, c.ns, c.nv, (c.refs.length : Int)]) := by show _ = _; simp [ckNs]
  obtain ⟨NS, hNS⟩ : ∃ NS, ckNs c = NS := ⟨_, rfl⟩
  rw [hNS] at HST HLN HZ ⊢
  clear hNS
  obtain ⟨st, ng, ns, nv, rs⟩ := c
  simp only at HR HST HLN HZ hl ⊢
  obtain ⟨n, hn⟩ : ∃ n, rs.length = n := ⟨_, rfl⟩
  rw [hn] at hl HLN HZ ⊢
  have HN := Lib.hid hn
  clear hn
  have X0 := Box.new w #[.int .i64 st, .int .i64 ng, .int .i64 ns, .int .i64 nv, .slice a n cap] 48
  have b0 := belNew w (.cells #[.int .i64 st, .int .i64 ng, .int .i64 ns, .int .i64 nv, .slice a n cap] 48)
  obtain ⟨x0, x1, x2, x3, x4, _⟩ := X0.fiveC
  go_enter Tryz.func121, Tryz.ntmps121
  go_upto_region 1 with fail
  generalize w.alloc (.cells #[.int .i64 st, .int .i64 ng, .int .i64 ns, .int .i64 nv, .slice a n cap] 48) = W at X0 b0 x0 x1 x2 x3 x4 ⊢
  have I0 := RBuf.litI W [st, ng, ns, nv, (n : Int)] (by simp)
  have kI := belNew W (.cells #[.int .i64 st, .int .i64 ng, .int .i64 ns, .int .i64 nv, .int .i64 (n : Int)] 3)
  have y4 := (X0.later kI).cell 4 _ rfl
  have HI : Hid (RBuf intE W.heap.size W (W.alloc (.cells #[.int .i64 st, .int .i64 ng, .int .i64 ns, .int .i64 nv, .int .i64 (n : Int)] 3)) (.slice (some ⟨W.heap.size, 0, none⟩) 5 5) (NS 0)) := by
    show RBuf _ _ _ _ _ _
    rw [HZ.out]
    exact I0.down kI (Nat.le_refl _)
  have HB0 := Lib.hid b0
  clear X0 b0 I0 kI
  go_wp2_with fail
  clear x0 x1 x2 x3 x4 y4
  generalize W.alloc (.cells #[.int .i64 st, .int .i64 ng, .int .i64 ns, .int .i64 nv, .int .i64 (n : Int)] 3) = W1 at HI ⊢
  go_loopw [3, 21] (fun v iv wr => ∃ i : Nat, i ≤ n ∧ iv = .int .i64 (i : Int) ∧ RBuf intE W.heap.size W wr v (NS i)) (fun _ iv _ => n - (intOf iv).toNat)
  case atStart => exact ⟨0, by omega, rfl, HI.out⟩
  case round =>
    clear HI
    obtain ⟨i, hi, rfl, I⟩ := hrel
    by_cases hlt : i < n
    · obtain ⟨r, hgr⟩ : ∃ r, rs[i]? = some r := ⟨_, List.getElem?_eq_getElem (by rw [HN.out]; exact hlt)⟩
      have bw := HB0.out.trans (I.bel.mono HB0.out.size)
      obtain ⟨gp, op, rfl, p0, p1⟩ := HR.out _ bw i _ hgr
      have HS := Lib.hid (HST.out i r hgr)
      have hln := HLN.out i hi
      clear hgr bw
      obtain ⟨rN, rG⟩ := r
      simp only at p0 p1 HS
      obtain ⟨L0, hL0⟩ : ∃ L, NS i = L := ⟨_, rfl⟩
      rw [hL0] at I HS hln
      have HLL := Lib.hid hln
      clear hL0 hln
      have hi0 : (0 : Int) ≤ (i : Int) := by omega
      have hi1 : (i : Int) < (n : Int) := by omega
      have XS := Box.new wr #[.int .i64 rN, .int .i64 rG] 124
      have kS := belNew wr (.cells #[.int .i64 rN, .int .i64 rG] 124)
      have I1 := I.later kS
      clear I kS
      go_upto_region 5 with fail
      clear p0 p1
      generalize wr.alloc (.cells #[.int .i64 rN, .int .i64 rG] 124) = wS at XS I1 ⊢
      obtain ⟨gS, hgS⟩ : ∃ gS, wr.heap.size = gS := ⟨_, rfl⟩
      rw [hgS] at XS ⊢
      clear hgS
      have s0 := XS.cell 0 _ rfl
      have s1 := XS.cell 1 _ rfl
      have hb5 := Lib.hid (I1.alloc (.cells #[.int .i64 rN, .int .i64 rG] 3))
      have hL5 := Lib.hid (RBuf.litI wS [rN, rG] (by simp))
      obtain ⟨a5, c5, rfl⟩ := I1.form
      clear XS I1
      go_wp2_with (at_builtin; refine wpList_append_rows rfl _ _ intE rfl W.heap.size _ L0 rfl hb5.out.here wS.heap.size _ [rN, rG] rfl hL5.out (by show _ * 9 ≤ _; simp only [List.length_cons, List.length_nil]; have := HLL.out; omega) ?_; intro v8 w8 r8 g8 at8)
      exact ⟨⟨i + 1, by omega, by simp, by rw [HS.out]; exact ⟨r8.own, hb5.out.bel.grown g8 hb5.out.le (fun q hq => (hb5.out.own.lt q hq).1), r8.le⟩⟩, by first | omega | (simp [intOf]; omega)⟩
    · have hin : i = n := by omega
      subst hin
      have hge : ¬ (i : Int) < (i : Int) := by omega
      have HD := Lib.hid (I.down (HB0.out.trans (I.bel.mono HB0.out.size)) HB0.out.size)
      clear I
      go_wp2
      go_ret
      exact ⟨_, rfl, HD.out⟩

def TextC (c : Ck) (e : Ending) : Prop := (c.ok ∧ e = .returned (.tuple #[.string (ckTx c), .nilIface])) ∨ (¬ c.ok ∧ ∃ k : Int, (k = 1 ∨ k = 2) ∧ e = .returned (.tuple #[.string ⟨#[]⟩, .iface 134 (.agg #[.int .i64 k])]))
set_option maxRecDepth 100000 in
set_option maxHeartbeats 8000000 in
theorem textOfCheck_any (c : Ck) (a : Option Addr) (cap : Nat) (w : World) (ht : SumTab w) (h : Rows' rfE w (.slice a c.refs.length cap) c.refs) (hl : c.refs.length ≤ 1048576) :
    Calls Tryz.prog 88 #[.agg #[.int .i64 c.st, .int .i64 c.ng, .int .i64 c.ns, .int .i64 c.nv, .slice a c.refs.length cap]] w fun e w' => TextC c e ∧ Below w.heap.size w w' := by
  have HT : Hid (∀ x, Below w.heap.size w x → SumTab x) := fun x hx => ht.later hx
  have X0 := Box.new w #[.int .i64 c.st, .int .i64 c.ng, .int .i64 c.ns, .int .i64 c.nv, .slice a c.refs.length cap] 48
  have b0 := belNew w (.cells #[.int .i64 c.st, .int .i64 c.ng, .int .i64 c.ns, .int .i64 c.nv, .slice a c.refs.length cap] 48)
  have HW := Lib.hid (wrongWith_any c a cap _ (h.later b0) hl)
  obtain ⟨x0, x1, x2, x3, x4, _⟩ := X0.fiveC
  clear ht
  go_enter Tryz.func88, Tryz.ntmps88
  go_wp2_with fail
  clear x0 x1 x2 x3 x4
  refine HW.out.mono ?_
  rintro e w1 ⟨hw, k1⟩
  have b1 := b0.trans (k1.mono b0.size)
  have X1 := X0.later k1
  clear HW X0 b0 k1
  rcases hw with ⟨hok, rfl⟩ | ⟨hno, k, hk, rfl⟩
  rotate_left
  · have HE := Lib.hid (And.intro hno hk)
    clear hno hk h
    go_wp2
    go_ret2
    exact ⟨.inr ⟨HE.out.1, k, HE.out.2, rfl⟩, b1⟩
  have HZ1 : Hid (w.heap.size ≤ w1.heap.size) := b1.size
  have XB := Box.new w1 #[.pointer none, .slice none 0 0] 164
  have kB := belNew w1 (.cells #[.pointer none, .slice none 0 0] 164)
  have b2 := b1.trans (kB.mono b1.size)
  have X2 := X1.later kB
  have HNB := Lib.hid (numbersOf_any c a cap _ (h.later b2) hl)
  have HIN := Lib.hid (ckNs_in hok)
  have HNL := Lib.hid (ckNs_len c c.refs.length (Nat.le_refl _))
  have HL11 := Lib.hid hok.2.1.2
  obtain ⟨s1, s2, s3⟩ := ckSe_len hok
  have HOK := Lib.hid hok
  have HDE : Hid (ckSe c = ckBd c c.refs.length ++ fourOf (ckBd c c.refs.length) ∧ ckTx c = ⟨(vt (ckSe c).size).toArray⟩ ++ ckSe c ∧ ckBd c c.refs.length = ⟨(numsT (ckNs c c.refs.length)).toArray⟩) := ⟨rfl, rfl, rfl⟩
  obtain ⟨x0, x1, x2, x3, x4, _⟩ := X2.fiveC
  clear X1 hok h b1
  go_wp2_with fail
  clear x0 x1 x2 x3 x4
  generalize w1.alloc (.cells #[.pointer none, .slice none 0 0] 164) = w2 at XB kB b2 X2 HNB ⊢
  obtain ⟨gB, hgB⟩ : ∃ gB, w1.heap.size = gB := ⟨_, rfl⟩
  rw [hgB] at XB ⊢
  have hwB : w.heap.size ≤ gB ∧ gB < w2.heap.size := ⟨by rw [← hgB]; exact HZ1.out, XB.lt⟩
  clear hgB
  refine HNB.out.mono ?_
  rintro e w3 ⟨v3, rfl, R3⟩
  clear HNB kB
  obtain ⟨NS, hNS⟩ : ∃ NS, ckNs c c.refs.length = NS := ⟨_, rfl⟩
  rw [hNS] at R3 HIN HNL HDE
  obtain ⟨BD, hBD⟩ : ∃ BD, ckBd c c.refs.length = BD := ⟨_, rfl⟩
  rw [hBD] at HDE s1
  obtain ⟨SE, hSE⟩ : ∃ SE, ckSe c = SE := ⟨_, rfl⟩
  rw [hSE] at HDE s2
  have HFIN : Hid (∀ TX, ckTx c = TX → TextC c (.returned (.tuple #[.string TX, .nilIface]))) := fun TX e => .inl ⟨HOK.out, by rw [e]⟩
  obtain ⟨TX, hTX⟩ : ∃ TX, ckTx c = TX := ⟨_, rfl⟩
  rw [hTX] at HDE s3
  have HF := Lib.hid (HFIN.out TX hTX)
  clear hNS hBD hSE hTX HFIN HOK
  have bw3 := b2.trans (R3.bel.mono b2.size)
  have B3 : Bld w3.heap.size gB (Lib.byteCells (numsT (NS.take 0))) w3 := by
    refine ⟨by have := R3.bel.size; omega, _, _, .inl rfl, XB.later R3.bel, ?_⟩
    exact World.ownsRow_nil _ _ _ _
  obtain ⟨a3, c3, rfl, g3, o3, ha3, hN3⟩ : ∃ (a3 : Option Addr) (c3 : Nat), v3 = .slice a3 NS.length c3 ∧ ∃ g3 o3, a3 = some ⟨g3, o3, none⟩ ∧ ∀ X, BelBut w3.heap.size gB w3 X → ∀ (i : Nat) (x : Int), NS[i]? = some x → X.cell? ⟨g3, o3 + i, none⟩ = some (.int .i64 x) := by
    rcases R3.rows.ways with ⟨hz, _⟩ | ⟨_, g, off, c', rfl, _, hg, hcl⟩
    · have := HNL.out; rw [hz] at this; simp at this; omega
    · refine ⟨_, _, rfl, g, off, rfl, fun X hX i x hi => ?_⟩
      have hlt := R3.own.lt g rfl
      have h1 := hcl i x hi 0 _ rfl
      rw [show intE.sz = 1 from rfl, Nat.mul_one, Nat.add_zero] at h1
      rw [cell_heap (hX.block g hlt.2 (by have := hlt.1; omega))]
      exact h1
  subst ha3
  have HN3 := Lib.hid hN3
  have HTB : Hid (∀ i, (numsT (NS.take i)).length ≤ 5 * NS.length) := fun i => by
    have h1 := numsT_bound (l := NS.take i) (fun n hn => HIN.out n (List.mem_of_mem_take hn))
    rw [List.length_take] at h1
    omega
  have hm27 : NS.length ≤ 27 := by have := HNL.out; have := HL11.out; omega
  obtain ⟨m, hm⟩ : ∃ m, NS.length = m := ⟨_, rfl⟩
  rw [hm] at hm27 HTB ⊢
  have HM := Lib.hid hm
  clear hm hN3 R3 XB X2 HNL HL11
  have HBW := Lib.hid bw3
  have HB3 := Lib.hid B3
  obtain ⟨BB, hBB⟩ : ∃ BB, w3.heap.size = BB := ⟨_, rfl⟩
  rw [hBB] at HB3 HN3
  have HSZ : Hid (BB ≤ w3.heap.size ∧ gB < BB) := ⟨by omega, by rw [← hBB]; exact B3.1⟩
  clear hBB B3 bw3 b2
  go_wp2_with fail
  go_loopw [22] (fun iv wr => ∃ i : Nat, i ≤ m ∧ iv = .int .i64 (i : Int) ∧ Bld BB gB (Lib.byteCells (numsT (NS.take i))) wr ∧ BelBut BB gB w3 wr) (fun iv _ => m - (intOf iv).toNat)
  case atStart => exact ⟨0, by omega, rfl, HB3.out, BelBut.refl _ _ _⟩
  case round =>
    clear HB3
    obtain ⟨i, hi, rfl, hbd, hbb⟩ := hrel
    by_cases hlt : i < m
    · obtain ⟨N, hgN⟩ : ∃ N, NS[i]? = some N := ⟨_, List.getElem?_eq_getElem (by rw [HM.out]; exact hlt)⟩
      have p0 := HN3.out _ hbb i _ hgN
      have hin := HIN.out N (List.mem_of_getElem? hgN)
      have HS := Lib.hid (numsT_take hgN)
      have hlb := HTB.out i
      clear hgN
      have hv := vt_five (n := N.toNat) (by omega)
      have HV := Lib.hid (varT_yes (n := N) hin)
      obtain ⟨L0, hL0⟩ : ∃ L, numsT (NS.take i) = L := ⟨_, rfl⟩
      rw [hL0] at hbd HS hlb
      obtain ⟨T, hT⟩ : ∃ T, (⟨(vt N.toNat).toArray⟩ : ByteArray) = T := ⟨_, rfl⟩
      rw [hT] at HV
      have HTL : Hid (T.data.toList = vt N.toNat ∧ T.size ≤ 5) := by rw [← hT]; exact ⟨by simp, by show (vt N.toNat).toArray.size ≤ 5; simpa using hv⟩
      have hbl : (Lib.byteCells L0).length + T.size ≤ 140737488355328 := by rw [byteCells_len]; have := HTL.out.2; omega
      have HBL := Lib.hid hbl
      have HBD := Lib.hid hbd
      have HBB := Lib.hid hbb
      clear hL0 hT hbl hbd hbb hv
      have hi0 : (0 : Int) ≤ (i : Int) := by omega
      have hi1 : (i : Int) < (m : Int) := by omega
      go_wp2_with fail
      refine (implVarText_any N _).mono ?_
      rintro e w5 ⟨rfl, k5⟩
      rw [HV.out]
      clear p0
      go_wp2_with fail
      refine (bldWrite2 BB gB (Lib.byteCells L0) T _ (HBD.out.later k5) HBL.out (by have := HSZ.out.1; have := HBB.out.size; have := k5.size; omega)).mono ?_
      rintro e w6 ⟨rfl, bd6, k6⟩
      have es : Lib.byteCells L0 ++ Lib.strCells T = Lib.byteCells (numsT (NS.take (i + 1))) := by rw [HS.out, ← HTL.out.1]; simp [Lib.byteCells, Lib.strCells]
      rw [es] at bd6
      have HF6 := Lib.hid (And.intro bd6 ((HBB.out.trans (BelBut.of_below k5 (by have := HSZ.out.1; have := HBB.out.size; omega))).trans k6))
      clear bd6 k6 k5 es
      go_wp2_with fail
      go_roundw
      case rel => exact ⟨i + 1, by omega, by go_num, HF6.out.1, HF6.out.2⟩
      case measure => simp [intOf]; omega
    · have hge : ¬ (i : Int) < (m : Int) := by omega
      have him : i = NS.length := by rw [HM.out]; omega
      rw [him, List.take_length] at hbd
      have hgs : gB ≤ wr.heap.size := by have := HSZ.out; have := hbb.size; omega
      have HST := Lib.hid (bldString gB gB (numsT NS) _ hbd.is hgs)
      obtain ⟨hd1, hd2, hd3⟩ := HDE.out
      rw [← hd3] at HST
      have bwr := HBW.out.trans (hbb.below (C := w.heap.size) hwB.1 (by have := HSZ.out.2; omega))
      have HBR := Lib.hid bwr
      have HSEL := Lib.hid (seT_yes (s := BD) (by omega))
      rw [← hd1] at HSEL
      have HSS := Lib.hid (fun x hx => implSealed_any BD x (by omega) (HT.out x hx))
      have HSH := Lib.hid (fun x => implShortText_any SE x (by omega))
      have HSHT := Lib.hid (shT_yes (s := SE) (by omega))
      rw [← hd2] at HSHT
      have h128 : ¬ (128 : Int) < (TX.size : Int) := by omega
      have hwg := hwB.1
      clear him hbd hd1 hd2 hd3 bwr hbb HDE HTB HIN HN3 s1 s2 s3
      go_wp2_with (first
        | (go_at_call 125; refine HST.out.mono ?_; rintro e w7 ⟨rfl, k7⟩; have b7 := HBR.out.trans (k7.mono hwg))
        | (go_at_call 124; refine (HSS.out _ b7).mono ?_; rintro e w8 ⟨rfl, k8⟩; rw [HSEL.out])
        | (go_at_call 126; refine (HSH.out _).mono ?_; rintro e w9 ⟨rfl, k9⟩; rw [HSHT.out]))
      go_ret2
      have b8 := b7.trans (k8.mono b7.size)
      exact ⟨HF.out, b8.trans (k9.mono b8.size)⟩


end Go.Proofs.YtieenkloiicnkaaGreatDoor
