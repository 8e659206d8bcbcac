/- Texts of our own, joined. -/
import Derived.Test.YtgcnebepklelpaaGreatDoorJe
import Derived.Test.YtgcnebepklelpaaGreatDoorJs
import Derived.Test.YtgcnebepklelpaaGreatDoorJl
import Derived.Test.YtgcnebepklelpaaGreatDoorJd
import Derived.Test.YtgcnebepklelpaaGreatDoorJf
import Derived.Test.YtgcnebepklelpaaGreatDoorJk
import Derived.ProofKit
import Derived.LaidMore
import Derived.Test.YtgcnebepklelpaaGreatDoorJq
import Derived.Test.YtgcnebepklelpaaGreatDoorRows
import Derived.LaidLaws
import Derived.LaidHandle
/- The helpers of the exact laws over stores. -/
namespace Go.Proofs.YtgcnebepklelpaaGreatDoor
open Go.RowKit

set_option maxRecDepth 100000 in
set_option maxHeartbeats 1000000 in
theorem eqStore_same (S : So) (v1 v2 : Value) (w : World) (h1 : SoRd w v1 S) (h2 : SoRd w v2 S) (hs : S.g.d.small) (hl : S.g.used.length ≤ 1099511627776) (hm : ∀ b ∈ S.g.used, b.items.length ≤ 1099511627776) (hf : S.fr.length ≤ 1099511627776) :
    Calls Tryz.prog 6 #[v1, v2] w fun e w' => e = .returned (.bool true) ∧ Below w.heap.size w w' := by
  obtain ⟨va, vb, vu, vf, rfl, ha, hb⟩ := h1
  obtain ⟨vc, vd, vx, vg, rfl, hc, hd⟩ := h2
  have b0 : Below w.heap.size w ((w.alloc (.cells #[va, vb, .int .i64 S.g.segs, vu, .int .i64 S.g.ng, .int .i64 S.g.ns, .int .i64 S.g.st, .int .i64 S.g.nv, vf] 31)).alloc (.cells #[vc, vd, .int .i64 S.g.segs, vx, .int .i64 S.g.ng, .int .i64 S.g.ns, .int .i64 S.g.st, .int .i64 S.g.nv, vg] 31)) := ((Below.refl _ _).alloc (Nat.le_refl _) _).alloc (by simp) _
  have q0 := Box.new w #[va, vb, .int .i64 S.g.segs, vu, .int .i64 S.g.ng, .int .i64 S.g.ns, .int .i64 S.g.st, .int .i64 S.g.nv, vf] 31
  have q1 := Box.new (w.alloc (.cells #[va, vb, .int .i64 S.g.segs, vu, .int .i64 S.g.ng, .int .i64 S.g.ns, .int .i64 S.g.st, .int .i64 S.g.nv, vf] 31)) #[vc, vd, .int .i64 S.g.segs, vx, .int .i64 S.g.ng, .int .i64 S.g.ns, .int .i64 S.g.st, .int .i64 S.g.nv, vg] 31
  rw [show (w.alloc (.cells #[va, vb, .int .i64 S.g.segs, vu, .int .i64 S.g.ng, .int .i64 S.g.ns, .int .i64 S.g.st, .int .i64 S.g.nv, vf] 31)).heap.size = w.heap.size + 1 by simp] at q1
  replace q0 := q0.later (belNew _ (.cells #[vc, vd, .int .i64 S.g.segs, vx, .int .i64 S.g.ng, .int .i64 S.g.ns, .int .i64 S.g.st, .int .i64 S.g.nv, vg] 31))
  have HB : Hid (∀ x, Below ((w.alloc (.cells #[va, vb, .int .i64 S.g.segs, vu, .int .i64 S.g.ng, .int .i64 S.g.ns, .int .i64 S.g.st, .int .i64 S.g.nv, vf] 31)).alloc (.cells #[vc, vd, .int .i64 S.g.segs, vx, .int .i64 S.g.ng, .int .i64 S.g.ns, .int .i64 S.g.st, .int .i64 S.g.nv, vg] 31)).heap.size ((w.alloc (.cells #[va, vb, .int .i64 S.g.segs, vu, .int .i64 S.g.ng, .int .i64 S.g.ns, .int .i64 S.g.st, .int .i64 S.g.nv, vf] 31)).alloc (.cells #[vc, vd, .int .i64 S.g.segs, vx, .int .i64 S.g.ng, .int .i64 S.g.ns, .int .i64 S.g.st, .int .i64 S.g.nv, vg] 31)) x →
      Below w.heap.size w x ∧ Rows' intE x vf S.fr ∧ Rows' intE x vg S.fr ∧ Box x w.heap.size #[va, vb, .int .i64 S.g.segs, vu, .int .i64 S.g.ng, .int .i64 S.g.ns, .int .i64 S.g.st, .int .i64 S.g.nv, vf] 31 ∧ Box x (w.heap.size + 1) #[vc, vd, .int .i64 S.g.segs, vx, .int .i64 S.g.ng, .int .i64 S.g.ns, .int .i64 S.g.st, .int .i64 S.g.nv, vg] 31) := by
    intro x h
    have h' : Below w.heap.size w x := b0.trans (h.mono b0.size)
    exact ⟨h', hb.later h', hd.later h', q0.later h, q1.later h⟩
  have HD := Lib.hid (eqLog_same S.g _ _ _ (ha.later b0) (hc.later b0) hs hl hm)
  have HG := Lib.hid (fun x p q => eqIntS_same S.fr vf vg x p q hf)
  clear hb hd ha hc q0 q1 b0 hm
  go_enter Tryz.func6, Tryz.ntmps6
  go_wp2_with fail
  refine HD.out.mono ?_
  rintro e w1 ⟨rfl, k1⟩
  obtain ⟨b1, r1, r2, x0, x1⟩ := HB.out w1 k1
  have c8 := x0.cell 8 _ rfl
  have d8 := x1.cell 8 _ rfl
  clear x0 x1
  go_wp2_with fail
  refine (HG.out _ r1 r2).mono ?_
  rintro e w2 ⟨rfl, k2⟩
  obtain ⟨b2, _, _, _, _⟩ := HB.out w2 (k1.trans (k2.mono k1.size))
  clear c8 d8 r1 r2
  go_wp2
  go_ret
  exact ⟨rfl, b2⟩


set_option maxRecDepth 100000 in
set_option maxHeartbeats 2000000 in
theorem markStore_any (S : So) (v : Value) (k B T : Nat) (w : World) (h : SoO B T w v S) (hk : 1 ≤ k) (hk2 : S.kS k ≤ 1099511627776) (hl : S.g.used.length ≤ 1099511627776) :
    Calls Tryz.prog 7 #[v, .int .i64 (k : Int)] w fun e w' => e = .returned (.int .i64 (S.kS k : Int)) ∧ SoO B T w' v (marksSo k S) ∧ Kept B T w w' := by
  obtain ⟨va, vb, vu, vf, hs, B1, T1, B2, T2, rfl, hn, P, Q⟩ := h
  have hk3 : S.g.kL k ≤ 1099511627776 := by unfold So.kS at hk2; omega
  have b0 := belNew w (.cells #[va, vb, .int .i64 S.g.segs, vu, .int .i64 S.g.ng, .int .i64 S.g.ns, .int .i64 S.g.st, .int .i64 S.g.nv, vf] 31)
  have q0 := Box.new w #[va, vb, .int .i64 S.g.segs, vu, .int .i64 S.g.ng, .int .i64 S.g.ns, .int .i64 S.g.st, .int .i64 S.g.nv, vf] 31
  have k0 := Kept.of_below b0 B T
  have hcl : w.heap.size < (w.alloc (.cells #[va, vb, .int .i64 S.g.segs, vu, .int .i64 S.g.ng, .int .i64 S.g.ns, .int .i64 S.g.st, .int .i64 S.g.nv, vf] 31)).heap.size := by simp
  have HML := Lib.hid (markLog_any S.g _ k B1 T1 _ ⟨va, vb, vu, hs, rfl, P.later b0⟩ hk hk3 hl)
  have HQ := Lib.hid (Q.later b0)
  have HK0 := Lib.hid k0
  obtain ⟨K1, hK1⟩ : ∃ K1, S.g.kL k = K1 := ⟨_, rfl⟩
  have HK1 := Lib.hid hK1
  rw [hK1] at HML
  have hK2 : S.kS k = K1 + S.fr.length := by unfold So.kS; rw [hK1]
  have HMI := Lib.hid (fun x (hx : RBuf intE B2 x x vf S.fr) => markIntS_put S.fr vf K1 B2 x x hx (by omega))
  rw [hK2]
  have HN := Lib.hid hn
  have hcl' := Lib.hid hcl
  clear P Q b0 k0 hK1 hK2 hk2 hk3 hcl hn
  obtain ⟨n, hln⟩ : ∃ n, S.fr.length = n := ⟨_, rfl⟩
  have HLN := Lib.hid hln
  rw [hln] at HMI ⊢
  clear hln
  go_enter Tryz.func7, Tryz.ntmps7
  go_wp2_with fail
  generalize w.alloc (.cells #[va, vb, .int .i64 S.g.segs, vu, .int .i64 S.g.ng, .int .i64 S.g.ns, .int .i64 S.g.st, .int .i64 S.g.nv, vf] 31) = W at HML HQ HK0 q0 hcl' ⊢
  refine HML.out.mono ?_
  rintro e w1 ⟨rfl, p1, k1⟩
  have q1 : Box w1 w.heap.size #[va, vb, .int .i64 S.g.segs, vu, .int .i64 S.g.ng, .int .i64 S.g.ns, .int .i64 S.g.st, .int .i64 S.g.nv, vf] 31 := q0.keptG k1 (by have := HN.out; omega)
  have Q1 := HQ.out.kept k1 (by have := HN.out; omega)
  have c8 := q1.cell 8 _ rfl
  have HP1 := Lib.hid p1
  have HKK1 := Lib.hid k1
  clear p1 k1 q0 q1 HML
  go_wp2_with fail
  clear c8
  refine (HMI.out _ Q1.1).mono ?_
  rintro e w2 ⟨rfl, r2, g2⟩
  have k2 : Kept B2 T2 w1 w2 := Kept.of_grown g2 (fun j hj => ⟨(Q1.1.own.lt j hj).1, Q1.2.2 j hj⟩)
  have HE : Hid (SoO B T w2 (.agg #[va, vb, .int .i64 S.g.segs, vu, .int .i64 S.g.ng, .int .i64 S.g.ns, .int .i64 S.g.st, .int .i64 S.g.nv, vf]) (marksSo k S)) := by
    have h1 := HP1.out.kept k2 (by have := HN.out; omega)
    have h2 : LOwn intE B2 T2 w2 vf (marksN (S.g.kL k) S.fr.length) := by
      rw [HK1.out, HLN.out]
      exact ⟨r2.here, Nat.le_trans Q1.2.1 k2.size, Q1.2.2⟩
    exact SoO.mk2 (S := marksSo k S) h1 h2 (by have := HN.out; have := HK0.out.size; have := HKK1.out.size; have := k2.size; omega)
  have HKE : Hid (Kept B T w w2) := HK0.out.trans ((HKK1.out.wideS (by have := HN.out; omega) (by have := HN.out; omega)).trans (k2.wideS (by have := HN.out; omega) (by have := HN.out; omega)))
  clear r2 g2 k2 Q1
  go_wp2
  go_ret
  exact ⟨rfl, HE.out, HKE.out⟩

set_option maxRecDepth 100000 in
set_option maxHeartbeats 2000000 in
theorem heldStore_any (S : So) (v : Value) (k : Nat) (w : World) (h : SoRd w v (marksSo k S)) (hk : 1 ≤ k) (hk2 : S.kS k ≤ 1099511627776) (hl : S.g.used.length ≤ 1099511627776) :
    Calls Tryz.prog 8 #[v, .int .i64 (k : Int)] w fun e w' => e = .returned (.int .i64 (S.kS k : Int)) ∧ Below w.heap.size w w' := by
  obtain ⟨va, vb, vu, vf, rfl, ha, hb⟩ := h
  change Calls Tryz.prog 8 #[.agg #[va, vb, .int .i64 S.g.segs, vu, .int .i64 S.g.ng, .int .i64 S.g.ns, .int .i64 S.g.st, .int .i64 S.g.nv, vf], .int .i64 (k : Int)] w _
  replace ha : LRd w (.agg #[va, vb, .int .i64 S.g.segs, vu, .int .i64 S.g.ng, .int .i64 S.g.ns, .int .i64 S.g.st, .int .i64 S.g.nv]) (marksLg k S.g) := ha
  replace hb : Rows' intE w vf (marksN (S.g.kL k) S.fr.length) := hb
  have hk3 : S.g.kL k ≤ 1099511627776 := by unfold So.kS at hk2; omega
  have b0 := belNew w (.cells #[va, vb, .int .i64 S.g.segs, vu, .int .i64 S.g.ng, .int .i64 S.g.ns, .int .i64 S.g.st, .int .i64 S.g.nv, vf] 31)
  have q0 := Box.new w #[va, vb, .int .i64 S.g.segs, vu, .int .i64 S.g.ng, .int .i64 S.g.ns, .int .i64 S.g.st, .int .i64 S.g.nv, vf] 31
  have HD := Lib.hid (heldLog_any S.g _ k _ (ha.later b0) hk hk3 hl)
  have HB : Hid (∀ x, Below (w.alloc (.cells #[va, vb, .int .i64 S.g.segs, vu, .int .i64 S.g.ng, .int .i64 S.g.ns, .int .i64 S.g.st, .int .i64 S.g.nv, vf] 31)).heap.size (w.alloc (.cells #[va, vb, .int .i64 S.g.segs, vu, .int .i64 S.g.ng, .int .i64 S.g.ns, .int .i64 S.g.st, .int .i64 S.g.nv, vf] 31)) x → Below w.heap.size w x ∧ Rows' intE x vf (marksN (S.g.kL k) S.fr.length) ∧ Box x w.heap.size #[va, vb, .int .i64 S.g.segs, vu, .int .i64 S.g.ng, .int .i64 S.g.ns, .int .i64 S.g.st, .int .i64 S.g.nv, vf] 31) := by
    intro x h
    have h' : Below w.heap.size w x := b0.trans (h.mono b0.size)
    exact ⟨h', hb.later h', q0.later h⟩
  have HG := Lib.hid (fun x hx => heldIntS_any S.fr.length vf (S.g.kL k) x hx hk2)
  obtain ⟨K1, hK1⟩ : ∃ K1, S.g.kL k = K1 := ⟨_, rfl⟩
  have hK2 : S.kS k = K1 + S.fr.length := by unfold So.kS; rw [hK1]
  rw [hK1] at HD HG HB
  rw [hK2]
  obtain ⟨K2, hK2⟩ : ∃ K2, K1 + S.fr.length = K2 := ⟨_, rfl⟩
  rw [hK2] at HG ⊢
  have hp1 : ¬ ((K1 : Int) < 0) := by omega
  have hp2 : ¬ ((K2 : Int) < 0) := by omega
  clear ha hb q0 b0 hK1 hK2 hk2 hk3
  go_enter Tryz.func8, Tryz.ntmps8
  go_wp2_with fail
  refine HD.out.mono ?_
  rintro e w1 ⟨rfl, k1⟩
  obtain ⟨b1, g1, x1⟩ := HB.out w1 k1
  have c8 := x1.cell 8 _ rfl
  clear x1
  go_wp2_with fail
  clear c8
  refine (HG.out _ g1).mono ?_
  rintro e w2 ⟨rfl, k2⟩
  obtain ⟨b2, _, _⟩ := HB.out w2 (k1.trans (k2.mono k1.size))
  go_wp2
  go_ret
  exact ⟨rfl, b2⟩


end Go.Proofs.YtgcnebepklelpaaGreatDoor

/- A new log is small. -/
namespace Go.Proofs.YtgcnebepklelpaaGreatDoor
open Go.RowKit

theorem opO_used {L L' : Lg} {keep : Int} (ho : opO L keep = some L') : ∃ b : Sg, L'.used = L.used ++ [b] ∧ b.items = [] := by
  unfold opO at ho
  split at ho
  case isFalse => cases ho
  case isTrue hc =>
    cases hw : sgW L.d (opN L) 0 (hdT L.ng) with
    | none => rw [hw] at ho; cases ho
    | some d => rw [hw] at ho; cases ho; exact ⟨_, rfl, rfl⟩
theorem fmO_small (segs : Int) : ((fmO segs).getD lg0).d.small ∧ ((fmO segs).getD lg0).used.length ≤ 1099511627776 ∧ (∀ b ∈ ((fmO segs).getD lg0).used, b.items.length ≤ 1099511627776) ∧ ((fmO segs).getD lg0).kL 1 ≤ 40000000 := by
  have hz : lg0.d.small ∧ lg0.used.length ≤ 1099511627776 ∧ (∀ b ∈ lg0.used, b.items.length ≤ 1099511627776) ∧ lg0.kL 1 ≤ 40000000 := by
    refine ⟨⟨by decide, by decide⟩, by decide, (fun b hb => by cases hb), ?_⟩
    unfold Lg.kL
    rw [kF_gIts]
    decide
  by_cases h : 5 ≤ segs ∧ segs ≤ 11
  · cases ho : opO (fm0 segs) 0 with
    | none => rw [fmO_no ho]; exact hz
    | some L =>
      cases hw : wcO L.d (ckOf L) with
      | none => rw [fmO_none ho hw]; exact hz
      | some E =>
        rw [fmO_some h ho hw]
        obtain ⟨b, hu, hb⟩ := opO_used ho
        have hu' : L.used = [b] := hu
        obtain ⟨e1, _⟩ := wcO_ok hw
        show E.small ∧ L.used.length ≤ _ ∧ (∀ b ∈ L.used, b.items.length ≤ _) ∧ kF (1 + E.count) L.used ≤ _
        rw [hu']
        refine ⟨(Dk.ok_small e1).1, by simp, fun c hc => ?_, ?_⟩
        · have := List.mem_singleton.1 hc
          subst this
          rw [hb]; simp
        · rw [kF_gIts]
          have h1 := e1.2.1
          have h2 := e1.2.2.1
          have h3 : gIts [b] = 0 := by simp [gIts, hb]
          rw [h3]
          unfold Dk.count
          simp
          omega
  · rw [fmO_out h]; exact hz


end Go.Proofs.YtgcnebepklelpaaGreatDoor

/- What the exact laws on disks carry from call to call: a disk of its own that stands in a box. -/
namespace Go.Proofs.YtgcnebepklelpaaGreatDoor
open Go.RowKit

def DB (x : World) (b B T : Nat) (s1 s2 : Value) (d : Dk) : Prop := Box x b #[s1, s2] 25 ∧ DOwn B T x (.agg #[s1, s2]) d

theorem DB.new {x : World} {B T : Nat} {s1 s2 : Value} {d : Dk} (h : DOwn B T x (.agg #[s1, s2]) d) : DB (x.alloc (.cells #[s1, s2] 25)) x.heap.size B T s1 s2 d :=
  ⟨Box.new x _ _, h.later ((Below.refl _ _).alloc (Nat.le_refl _) _)⟩
theorem DB.later {x y : World} {b B T : Nat} {s1 s2 : Value} {d : Dk} (h : DB x b B T s1 s2 d) (hb : Below x.heap.size x y) : DB y b B T s1 s2 d := ⟨h.1.later hb, h.2.later hb⟩
theorem DB.kept {x y : World} {b B T B' T' : Nat} {s1 s2 : Value} {d : Dk} (h : DB x b B T s1 s2 d) (hk : Kept B' T' x y) (hd : T ≤ B' ∨ T' ≤ B) (hb : b < B' ∨ T' ≤ b) : DB y b B T s1 s2 d := ⟨h.1.kept hk hb, h.2.kept hk hd⟩
theorem DB.marked {x y : World} {b B T : Nat} {s1 s2 : Value} {d d' : Dk} (h : DB x b B T s1 s2 d) (hk : Kept B T x y) (ho : DOwn B T y (.agg #[s1, s2]) d') (hb : b < B ∨ T ≤ b) : DB y b B T s1 s2 d' := ⟨h.1.kept hk hb, ho⟩
theorem DB.c0 {x : World} {b B T : Nat} {s1 s2 : Value} {d : Dk} (h : DB x b B T s1 s2 d) : x.cell? ⟨b, 0, none⟩ = some s1 := h.1.cell 0 s1 rfl
theorem DB.c1 {x : World} {b B T : Nat} {s1 s2 : Value} {d : Dk} (h : DB x b B T s1 s2 d) : x.cell? ⟨b, 1, none⟩ = some s2 := h.1.cell 1 s2 rfl

end Go.Proofs.YtgcnebepklelpaaGreatDoor

/- The table of sixteen words, where the row lays it. -/
namespace Go.Proofs.YtgcnebepklelpaaGreatDoor
open Go.ChangeShapes Go.WideShapes Go.ChangeAt Go.RowKit
open Go.ChangeMaps (open_string shut_string)
set_option linter.unusedVariables false

theorem sumTabData : (Rows.laid_loop_example_g00287_impl_sumTable : DataW Unit) = Lib.tabData .u32 sumTabI := by rfl

theorem sumTab_of_laid {W : World} (h : laidMetH Tryz.prog [("loop.example/g00287/impl.sumTable", Rows.laid_loop_example_g00287_impl_sumTable)] W) : SumTab W := by
  rw [MakeChecks.laidMetH_plain _ _ _ (by kernel_rfl)] at h
  obtain ⟨ps, ⟨g0, t0, cs0, f0, p0, q0, hg0, ht0, hv0, hd0, _, _⟩, _⟩ := h
  have hg : Tryz.prog.globalNamed "loop.example/g00287/impl.sumTable" = some 1 := by kernel_rfl
  have ht : (Tryz.prog.globals[1]?).map (·.type) = some 187 := by kernel_rfl
  obtain rfl := Option.some.inj (hg.symm.trans hg0)
  obtain rfl := Option.some.inj (ht.symm.trans ht0)
  unfold SumTab Lib.TabIs
  rw [sumTabData] at hd0
  rw [hv0, ← Lib.cells_of_tab (P := Tryz.prog) Tryz.underlying187 Tryz.underlying136 (by kernel_rfl) (by kernel_rfl) hd0]

end Go.Proofs.YtgcnebepklelpaaGreatDoor

/- The handle of the type error, out of what the row lays. -/
namespace Go.Proofs.YtgcnebepklelpaaGreatDoor
open Go.RowKit

theorem err_et : Tryz.prog.globalNamed "errors.errorType" = some 0 := by kernel_rfl
theorem err_rt : (Tryz.prog.cutTypes.find? (·.1 == "internal/reflectlite.rtype")).map (·.2) = some 152 := by kernel_rfl
theorem err_oneRow : ((List.range 215).filter fun t => Tryz.prog.rowNamed t [101, 114, 114, 111, 114]) = [57] := by kernel_rfl
theorem err_size : Tryz.prog.types.size = 215 := by kernel_rfl

theorem errTab_of_handles {W : World} {l : List (String × DataW Unit)} (hm : ("errors.errorType", (.iface "internal/reflectlite.rtype" (.agg [.ptr (.lit (.string [101, 114, 114, 111, 114]))]) : DataW Unit)) ∈ l) (h : handlesMet Tryz.prog l W) : ErrTab W := by
  obtain ⟨name, u, ty, e1, e2, e3, e4, e5⟩ := h _ (by first | exact hm | exact List.mem_filter.2 ⟨hm, by kernel_rfl⟩)
  have en : name = [101, 114, 114, 111, 114] := (Option.some.inj e1).symm
  subst en
  obtain rfl := Option.some.inj (err_rt.symm.trans e2)
  have hm : ty ∈ (List.range 215).filter fun t => Tryz.prog.rowNamed t [101, 114, 114, 111, 114] := List.mem_filter.2 ⟨List.mem_range.2 (by rw [← err_size]; exact e3), e4⟩
  rw [err_oneRow] at hm
  obtain rfl := List.mem_singleton.1 hm
  have hh : typeHandle Tryz.prog 57 = .pointer (some ⟨2, 57, none⟩) := by kernel_rfl
  rw [hh] at e5
  unfold ErrTab
  simpa using World.var?_cell err_et e5 0

end Go.Proofs.YtgcnebepklelpaaGreatDoor
