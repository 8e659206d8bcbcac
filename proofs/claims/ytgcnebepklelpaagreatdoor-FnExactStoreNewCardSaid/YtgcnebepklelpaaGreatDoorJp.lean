/- Texts of our own, joined. -/
import Derived.Test.YtgcnebepklelpaaGreatDoorJo
import Derived.Deep.RegionHeld3
import Derived.Test.YtgcnebepklelpaaGreatDoorJk
/- A new head of a log: openHead of the program. -/
namespace Go.Proofs.YtgcnebepklelpaaGreatDoor
open Go.RowKit

theorem Box.fourH {w : World} {b : Nat} {u0 u1 u2 u3 : Value} {t : TypeId} (h : Box w b #[u0, u1, u2, u3] t) : w.cell? ⟨b, 0, none⟩ = some u0 ∧ w.cell? ⟨b, 1, none⟩ = some u1 ∧ w.cell? ⟨b, 2, none⟩ = some u2 ∧ w.cell? ⟨b, 3, none⟩ = some u3 ∧ True :=
  ⟨h.cell 0 _ rfl, h.cell 1 _ rfl, h.cell 2 _ rfl, h.cell 3 _ rfl, trivial⟩
theorem keepH {C : World → Prop} {W x y : World} (HS : ∀ x, Below W.heap.size W x → C x) (h : C x ∧ Below W.heap.size W x) (hb : Below x.heap.size x y) : C y ∧ Below W.heap.size W y :=
  ⟨HS _ (h.2.trans (hb.mono h.2.size)), h.2.trans (hb.mono h.2.size)⟩
theorem ints_firstH {w : World} {a : Option Addr} {n c : Nat} {l : List Int} {k : Int} (h : Rows' intE w (.slice a n c) l) (h0 : l[0]? = some k) : ∃ g : Nat, ∃ off : Nat, a = some ⟨g, off, none⟩ ∧ ∀ x, Below w.heap.size w x → x.cell? ⟨g, off, none⟩ = some (.int .i64 k) := by
  rcases h.ways with ⟨rfl, a, c, e⟩ | ⟨hne, g, off, c, e, hc, hg, hcl⟩
  · cases h0
  · cases e
    exact ⟨g, off, rfl, fun x hb => (hb.cell (p := ⟨g, off, none⟩) hg).trans (by have := hcl 0 k h0 0 _ rfl; simpa using this)⟩
structure GrO (pg B T : Nat) (w w' : World) : Prop where
  os : w'.os = w.os
  tape : w'.tape = w.tape
  output : w'.output = w.output
  size : w.heap.size ≤ w'.heap.size
  block : ∀ q, q < w.heap.size → q ≠ pg → (q < B ∨ T ≤ q) → w'.heap[q]? = w.heap[q]?
theorem GrO.of_below {pg B T : Nat} {w w' : World} (h : Below w.heap.size w w') : GrO pg B T w w' := ⟨h.os, h.tape, h.output, h.size, fun q hq _ _ => h.block q hq⟩
theorem GrO.of_kept {pg B T : Nat} {w w' : World} (h : Kept B T w w') : GrO pg B T w w' := ⟨h.os, h.tape, h.output, h.size, fun q hq _ ho => h.block q hq ho⟩
theorem GrO.trans {pg B T : Nat} {w w1 w2 : World} (h : GrO pg B T w w1) (h2 : GrO pg B T w1 w2) : GrO pg B T w w2 := ⟨h2.os.trans h.os, h2.tape.trans h.tape, h2.output.trans h.output, Nat.le_trans h.size h2.size, fun q hq hn ho => (h2.block q (Nat.lt_of_lt_of_le hq h.size) hn ho).trans (h.block q hq hn ho)⟩
theorem GrO.of_grown {pg B T : Nat} {w w' : World} (h : w.grownBy w' (some pg)) : GrO pg B T w w' := ⟨h.os, h.tape, h.output, h.size, fun q hq hn _ => h.block q hq (fun e => hn (Option.some.inj e))⟩
theorem LgP.mkV {B C T1 : Nat} {w : World} {va vb vu : Value} {L : Lg} {hs : List SgH} (hd : DOwn C T1 w (.agg #[va, vb]) L.d) (hg : GOwn B w.heap.size w vu L.used hs) (hB : B ≤ C) (h1 : ∀ k, vu.ownBlock = some k → k < C ∨ T1 ≤ k) (h2 : ∀ (j : Nat) (x : SgH), hs[j]? = some x → ∀ k, x.mv.ownBlock = some k → k < C) : LgP B w.heap.size w va vb vu L hs := by
  obtain ⟨ua, ub, e, l1, l2, l3⟩ := hd
  simp only [Value.agg.injEq, Array.mk.injEq, List.cons.injEq, and_true] at e
  obtain ⟨rfl, rfl⟩ := e
  refine ⟨(l1.deeper hB).wider l1.2.1 (Nat.le_refl _), (l2.deeper hB).wider l2.2.1 (Nat.le_refl _), l3, hg, fun k hk => ?_⟩
  have hlt : C ≤ k ∧ k < T1 := by
    rcases hk with e | e
    · exact ⟨(l1.1.own.lt k e).1, l1.2.2 k e⟩
    · exact ⟨(l2.1.own.lt k e).1, l2.2.2 k e⟩
  refine ⟨fun e => ?_, fun j x hj e => ?_⟩
  · have := h1 k e; omega
  · have := h2 j x hj k e; omega
def OpI (L : Lg) (keep : Int) (pg B T : Nat) (tL : TypeId) (va vb vu : Value) (hs : List SgH) (w : World) (e : Ending) (w' : World) : Prop :=
  GrO pg B T w w' ∧
  ((opO L keep = none ∧ e = .returned (.bool false) ∧ Box w' pg (lgC va vb vu L) tL ∧ LgP B T w' va vb vu L hs) ∨
   ∃ L' va' vb' vu' hs', opO L keep = some L' ∧ e = .returned (.bool true) ∧ Box w' pg (lgC va' vb' vu' L') tL ∧ LgP B w'.heap.size w' va' vb' vu' L' hs')

set_option maxRecDepth 100000 in
set_option maxHeartbeats 8000000 in
theorem openHead_any (L : Lg) (keep : Int) (pg B T : Nat) (va vb vu : Value) (hs : List SgH) (w : World) (hb : Box w pg (lgC va vb vu L) 55) (hp : LgP B T w va vb vu L hs) (hpg : pg < B ∨ T ≤ pg) (hl : L.used.length ≤ 1048576) (H : OpH L) (hk : 0 ≤ keep) (ht : SumTab w) :
    Calls Tryz.prog 24 #[.pointer (some ⟨pg, 0, none⟩), .int .i64 keep] w fun e w' => OpI L keep pg B T 55 va vb vu hs w e w' := by
  obtain ⟨aa, ab, au, ca, cb, cu, rfl, rfl, rfl⟩ := hp.form
  have hlen : L.used.length = hs.length := hp.use.own.len.symm
  have HFA := Lib.hid (fun x h => freeAmong_any L.used (.slice au L.used.length cu) L.segs x h hl)
  rw [hlen] at hb hp hl HFA ⊢
  have HP := Lib.hid hp
  unfold lgC at hb
  have hfl := fr_len L
  have HHL := Lib.hid hl
  have HH := Lib.hid H
  clear hlen hl hp
  obtain ⟨d, segs, us, ng, ns, st, nv⟩ := L
  simp only at hb HP HFA ⊢
  have HB := Lib.hid hb
  have HPG : Hid (pg < w.heap.size) := hb.lt
  have HT : Hid (∀ x, Below w.heap.size w x → SumTab x) := fun x hx => ht.later hx
  have HNO : Hid (∀ x, Below w.heap.size w x → opO ⟨d, segs, us, ng, ns, st, nv⟩ keep = none → OpI ⟨d, segs, us, ng, ns, st, nv⟩ keep pg B T 55 (.slice aa d.sec.length ca) (.slice ab d.cache.length cb) (.slice au hs.length cu) hs w (.returned (.bool false)) x) := fun x hx h0 => ⟨GrO.of_below hx, .inl ⟨h0, rfl, HB.out.later hx, HP.out.later hx⟩⟩
  have HSC : Hid (∀ x, Below w.heap.size w x → (x.cell? ⟨pg, 2, none⟩ = some (.int .i64 segs) ∧ x.cell? ⟨pg, 3, none⟩ = some (.slice au hs.length cu))) := fun x hx => ⟨(HB.out.later hx).cell 2 _ rfl, (HB.out.later hx).cell 3 _ rfl⟩
  have HK0 : Hid ((fun x => (x.cell? ⟨pg, 2, none⟩ = some (.int .i64 segs) ∧ x.cell? ⟨pg, 3, none⟩ = some (.slice au hs.length cu)) ∧ Below w.heap.size w x) w.drew) := ⟨HSC.out _ (belDrewF w), belDrewF w⟩
  clear hb ht
  go_enter Tryz.func24, Tryz.ntmps24
  go_upto_region 1 with fail
  go_cut [5] (fun v wx => ∃ (af : Option Addr) (cf : Nat) (y : World), y = wx ∧ v = .slice af (fr ⟨d, segs, us, ng, ns, st, nv⟩).length cf ∧ Rows' intE y (.slice af (fr ⟨d, segs, us, ng, ns, st, nv⟩).length cf) (fr ⟨d, segs, us, ng, ns, st, nv⟩) ∧ Below w.heap.size w y)
  case first =>
    go_region_held3 (fun x => (x.cell? ⟨pg, 2, none⟩ = some (.int .i64 segs) ∧ x.cell? ⟨pg, 3, none⟩ = some (.slice au hs.length cu)) ∧ Below w.heap.size w x)
      (first | exact HK0.out | exact hSD.out)
      (first | (go_at_call 45; refine (HFA.out _ (HP.out.use.own.rd.later (belDrewF w))).mono ?_; rintro e wP ⟨vf, rfl, rf⟩; have kP := rf.bel; have hSD := Lib.hid (keepH HSC.out HK0.out kP)))
    all_goals
      obtain ⟨af, cf, hvf⟩ := rf.form
      subst hvf
      go_wp2_with fail
      go_meet
      exact ⟨af, cf, _, rfl, rfl, rf.rows, hSD.out.2⟩
  case rest =>
  obtain ⟨af, cf, w1, hwr, rfl, rf, k1⟩ := hcut
  subst hwr
  clear HSC HK0 HFA
  by_cases h1 : ((fr ⟨d, segs, us, ng, ns, st, nv⟩).length : Int) ≤ keep
  · have HE := Lib.hid (HNO.out _ k1 (opO_no (by omega)))
    clear rf
    go_wp2
    go_ret
    exact HE.out
  have c4 : w1.cell? ⟨pg, 4, none⟩ = some (.int .i64 ng) := (HB.out.later k1).cell 4 _ rfl
  have hng : 1 ≤ ng ∧ ng ≤ 1000000000 := HH.out.gen
  by_cases hngm : ng = 1000000000
  · subst hngm
    have HE := Lib.hid (HNO.out _ k1 (opO_no (fun h => by have h9 : (1000000000 : Int) < 1000000000 := h.2.2; omega)))
    clear rf
    go_wp2
    go_ret
    exact HE.out
  obtain ⟨hN0, _⟩ := opN_at (L := ⟨d, segs, us, ng, ns, st, nv⟩) (by omega)
  have hN12 := HH.out.first (by omega)
  obtain ⟨gf, of, rfl, hcf⟩ := ints_firstH rf hN0
  have HCF := Lib.hid hcf
  clear hN0 hcf rf
  have HOS : Hid (∀ D, sgW d (opN ⟨d, segs, us, ng, ns, st, nv⟩) 0 (hdT ng) = some D → opO ⟨d, segs, us, ng, ns, st, nv⟩ keep = some (opL ⟨d, segs, us, ng, ns, st, nv⟩ D)) := fun D hD => opO_some ⟨by omega, by omega, by show ng < _; omega⟩ hD
  have HON : Hid (sgW d (opN ⟨d, segs, us, ng, ns, st, nv⟩) 0 (hdT ng) = none → opO ⟨d, segs, us, ng, ns, st, nv⟩ keep = none) := fun h => opO_none h
  have HTZ : Hid ((hdT ng).size ≤ 196) := hdT_size HH.out.gen
  have HFV : Hid (hdF ng = ⟨ng, 1, segB⟩ ∧ (hdF ng).ok) := ⟨rfl, hdF_ok HH.out.gen⟩
  obtain ⟨fn, hfn⟩ : ∃ fn, (fr ⟨d, segs, us, ng, ns, st, nv⟩).length = fn := ⟨_, rfl⟩
  rw [hfn] at h1 hfl ⊢
  have hf1 : 0 < fn := by omega
  have hf0 : (0 : Int) < (fn : Int) := by omega
  clear hfn
  obtain ⟨N, hN⟩ : ∃ N, opN ⟨d, segs, us, ng, ns, st, nv⟩ = N := ⟨_, rfl⟩
  obtain ⟨tx, htx⟩ : ∃ tx, hdT ng = tx := ⟨_, rfl⟩
  have HOL : Hid (∀ D, opL ⟨d, segs, us, ng, ns, st, nv⟩ D = ⟨flD D, segs, us ++ [⟨(N : Int), ng, (tx.size : Int), []⟩], ng + 1, ns, st, nv⟩) := fun D => by unfold opL; rw [hN, htx]
  have HTXF : Hid ((hdF ng).tx = tx) := htx
  rw [hN, htx] at HOS HON
  rw [hN] at HCF hN12
  rw [htx] at HTZ
  clear hN htx
  go_upto_region 4 with fail
  clear c4
  have HSC : Hid (∀ x, Below w1.heap.size w1 x → (x.cell? ⟨gf, of, none⟩ = some (.int .i64 (N : Int)) ∧ x.cell? ⟨pg, 4, none⟩ = some (.int .i64 ng))) := fun x hx => ⟨HCF.out x hx, (HB.out.later (k1.trans (hx.mono k1.size))).cell 4 _ rfl⟩
  have HK0 : Hid ((fun x => (x.cell? ⟨gf, of, none⟩ = some (.int .i64 (N : Int)) ∧ x.cell? ⟨pg, 4, none⟩ = some (.int .i64 ng)) ∧ Below w1.heap.size w1 x) w1.drew) := ⟨HSC.out _ (belDrewF w1), belDrewF w1⟩
  have PF : ∀ x, Below w1.heap.size w1 x → x.cell? ⟨gf, of, none⟩ = some (.int .i64 (N : Int)) := fun x hx => (HSC.out x hx).1
  have P4 : ∀ x, Below w1.heap.size w1 x → x.cell? ⟨pg, 4, none⟩ = some (.int .i64 ng) := fun x hx => (HSC.out x hx).2
  go_cut [6] (fun p wx => ∃ (ps : Nat) (y : World), y = wx ∧ p = .pointer (some ⟨ps, 0, none⟩) ∧ w1.heap.size ≤ ps ∧ Box y ps #[.int .i64 (N : Int), .int .i64 ng, .int .i64 0, .slice none 0 0] 76 ∧ Below w1.heap.size w1 y)
  case first =>
    refine wp_region_held_drew (S := fun x => Below w1.heap.size w1 x) (by kernel_rfl) (belDrewF w1) (fun hHeld => ?_)
    refine takeL (i := 0) (v := .slice (some ⟨gf, of, none⟩) fn cf) rfl (by kernel_rfl) (by kernel_rfl) (by kernel_rfl) (fun _ _ _ h => h) (Or.inl ⟨by rfl, ?_⟩) (by assumption) ?_
    · intro x hSx; go_simp
    try simp only [Act.put, List.setIfInBounds_toArray, List.set_cons_zero, List.set_cons_succ]
    refine takeL (i := 1) (v := .pointer (some ⟨gf, of, none⟩)) rfl (by kernel_rfl) (by kernel_rfl) (by kernel_rfl) (fun _ _ _ h => h) (Or.inl ⟨by rfl, ?_⟩) (by assumption) ?_
    · intro x hSx; go_simp
    try simp only [Act.put, List.setIfInBounds_toArray, List.set_cons_zero, List.set_cons_succ]
    refine takeL (i := 2) (v := .int .i64 (N : Int)) rfl (by kernel_rfl) (by kernel_rfl) (by kernel_rfl) (fun _ _ _ h => h) (Or.inl ⟨by rfl, ?_⟩) (by assumption) ?_
    · intro x hSx; have q0 := PF x hSx; go_simp
    try simp only [Act.put, List.setIfInBounds_toArray, List.set_cons_zero, List.set_cons_succ]
    refine takeL (i := 3) (v := .pointer (some ⟨pg, 0, none⟩)) rfl (by kernel_rfl) (by kernel_rfl) (by kernel_rfl) (fun _ _ _ h => h) (Or.inl ⟨by rfl, ?_⟩) (by assumption) ?_
    · intro x hSx; go_simp
    try simp only [Act.put, List.setIfInBounds_toArray, List.set_cons_zero, List.set_cons_succ]
    refine takeL (i := 4) (v := .pointer (some ⟨pg, 0, none⟩)) rfl (by kernel_rfl) (by kernel_rfl) (by kernel_rfl) (fun _ _ _ h => h) (Or.inl ⟨by rfl, ?_⟩) (by assumption) ?_
    · intro x hSx; go_simp
    try simp only [Act.put, List.setIfInBounds_toArray, List.set_cons_zero, List.set_cons_succ]
    refine takeL (i := 5) (v := .pointer (some ⟨pg, 4, none⟩)) rfl (by kernel_rfl) (by kernel_rfl) (by kernel_rfl) (fun _ _ _ h => h) (Or.inl ⟨by rfl, ?_⟩) (by assumption) ?_
    · intro x hSx; go_simp
    try simp only [Act.put, List.setIfInBounds_toArray, List.set_cons_zero, List.set_cons_succ]
    refine takeL (i := 6) (v := .int .i64 ng) rfl (by kernel_rfl) (by kernel_rfl) (by kernel_rfl) (fun _ _ _ h => h) (Or.inl ⟨by rfl, ?_⟩) (by assumption) ?_
    · intro x hSx; have q0 := P4 x hSx; go_simp
    try simp only [Act.put, List.setIfInBounds_toArray, List.set_cons_zero, List.set_cons_succ]
    refine takeL (i := 7) (v := .agg #[.int .i64 (N : Int), .int .i64 ng, .int .i64 0, .slice none 0 0]) rfl (by kernel_rfl) (by kernel_rfl) (by kernel_rfl) (fun _ _ _ h => h) (Or.inl ⟨by rfl, ?_⟩) (by assumption) ?_
    · intro x hSx; go_simp
    try simp only [Act.put, List.setIfInBounds_toArray, List.set_cons_zero, List.set_cons_succ]
    have hz : w1.heap.size ≤ w1.drew.heap.size := Nat.le_refl _
    generalize w1.drew = Y0 at hHeld hz ⊢
    refine wpAnyH_ready (rs := [8]) (by kernel_rfl) (by simp) ?_
    refine readyOne rfl (fun K' hK => ?_)
    go_simp
    refine hK.out _ _ (hHeld.trans ((belNew Y0 (.cells #[.int .i64 0, .int .i64 0, .int .i64 0, .slice none 0 0] 76)).mono hHeld.size)) (fun hS2 => ?_)
    clear hK K' hHeld
    have hHeld := hS2
    clear hS2
    try simp only [Act.put, List.setIfInBounds_toArray, List.set_cons_zero, List.set_cons_succ]
    have bx := Box.new Y0 #[.int .i64 0, .int .i64 0, .int .i64 0, .slice none 0 0] 76
    generalize Y0.alloc (.cells #[.int .i64 0, .int .i64 0, .int .i64 0, .slice none 0 0] 76) = Y1 at hHeld bx ⊢
    generalize Y0.heap.size = gy at bx hz ⊢
    refine wpAnyH_ready (rs := [9]) (by kernel_rfl) (by simp) ?_
    refine readyOne rfl (fun K' hK => ?_)
    obtain ⟨x0, x1, x2, x3, f0, f1, f2, f3⟩ := bx.fourG
    go_simp
    clear x0 x1 x2 x3 f0 f1 f2 f3
    have hb4 : Below w1.heap.size w1 ((((Y1.setCell ⟨gy, 0, none⟩ (.int .i64 (N : Int))).setCell ⟨gy, 1, none⟩ (.int .i64 ng)).setCell ⟨gy, 2, none⟩ (.int .i64 0)).setCell ⟨gy, 3, none⟩ (.slice none 0 0)) := (((hHeld.setCell (p := ⟨gy, 0, none⟩) hz _).setCell (p := ⟨gy, 1, none⟩) hz _).setCell (p := ⟨gy, 2, none⟩) hz _).setCell (p := ⟨gy, 3, none⟩) hz _
    refine hK.out _ _ hb4 (fun hS2 => ?_)
    clear hK K' hS2
    try simp only [Act.put, List.setIfInBounds_toArray, List.set_cons_zero, List.set_cons_succ]
    refine wpAnyH_done (by kernel_rfl) ?_ _
    go_wp2_with fail
    go_meet
    exact ⟨gy, _, rfl, rfl, hz, bx.set4G _ _ _ _, hb4⟩
  case rest =>
  obtain ⟨ps, w2, hwr, rfl, hps, BS, k2⟩ := hcut
  subst hwr
  clear HSC HK0 HCF PF P4
  have j2 := k1.trans (k2.mono k1.size)
  have HPSN : Hid (ps ≠ pg ∧ w.heap.size ≤ ps) := by have := HPG.out; have := k1.size; exact ⟨by omega, by omega⟩
  have HWB : Hid (∀ x, Below w2.heap.size w2 x → Calls Tryz.prog 46 #[.pointer (some ⟨pg, 0, none⟩), .pointer (some ⟨ps, 0, none⟩), .agg #[.int .i64 ng, .int .i64 1, .string ⟨#[115, 101, 103]⟩]] x fun e w' => WbhR (sgW d N 0 tx) pg ps (tx.size : Int) x e w') := fun x hx => by
    have hx2 := j2.trans (hx.mono j2.size)
    have bG := HB.out.later hx2
    have bS := BS.later hx
    have h9 := writeBehind_any d (.slice aa d.sec.length ca) (.slice ab d.cache.length cb) pg ps N 0 (hdF ng) B T x (bG.cell 0 _ rfl) (bG.cell 1 _ rfl) (bG.loose 0) (bG.loose 1) (bS.cell 0 _ rfl) (bS.cell 2 _ rfl) (bS.loose 2) HPSN.out.1 (HP.out.later hx2).down HH.out.ok hN12.1 hN12.2 (by omega) HFV.out.2 (HT.out x hx2)
    rw [HTXF.out] at h9
    have e9 : ((0 : Nat) : Int) + (tx.size : Int) = (tx.size : Int) := by omega
    rw [e9] at h9
    exact h9
  have k3 := belNew w2 (.cells #[.int .i64 ng, .int .i64 1, .string ⟨#[115, 101, 103]⟩] 71)
  have BS3 := BS.later k3
  have BM := Box.new w2 #[.int .i64 ng, .int .i64 1, .string ⟨#[115, 101, 103]⟩] 71
  have HWB3 := Lib.hid (HWB.out _ k3)
  have j3 := j2.trans (k3.mono j2.size)
  have cS1 := BS.cell 1 _ rfl
  obtain ⟨m0, m1, m2⟩ : _ ∧ _ ∧ _ := ⟨BM.cell 0 _ rfl, BM.cell 1 _ rfl, BM.cell 2 _ rfl⟩
  clear hN12 BM BS k2 HWB HT HFV HTXF
  go_upto_region 6 with fail
  clear cS1
  generalize w2.alloc (.cells #[.int .i64 ng, .int .i64 1, .string ⟨#[115, 101, 103]⟩] 71) = w3 at BS3 HWB3 j3 m0 m1 m2 ⊢
  clear k3 j2
  go_wp2_with fail
  clear m0 m1 m2
  refine HWB3.out.mono ?_
  rintro e w6 (⟨hO, rfl, k6⟩ | ⟨D, sa, sb, y, hO, rfl, ky, oy, rfl⟩)
  · have HE := Lib.hid (HNO.out _ (j3.trans (k6.mono j3.size)) (HON.out hO))
    clear HWB3 hO k6
    go_wp2
    go_ret
    exact HE.out
  have HOS8 := Lib.hid (HOS.out D hO)
  rw [HOL.out D] at HOS8
  generalize flD D = E at oy HOS8
  obtain ⟨p1, p2, r1, r2, hv⟩ := oy.form
  simp only [Value.agg.injEq, Array.mk.injEq, List.cons.injEq, and_true] at hv
  obtain ⟨rfl, rfl⟩ := hv
  have jy := j3.trans (ky.mono j3.size)
  have BXP : Box (((y.setCell ⟨pg, 0, none⟩ (.slice p1 E.sec.length r1)).setCell ⟨pg, 1, none⟩ (.slice p2 E.cache.length r2)).setCell ⟨ps, 2, none⟩ (.int .i64 (tx.size : Int))) pg #[.slice p1 E.sec.length r1, .slice p2 E.cache.length r2, .int .i64 segs, .slice au hs.length cu, .int .i64 ng, .int .i64 ns, .int .i64 st, .int .i64 nv] 55 := (((HB.out.later jy).set 0 (.slice p1 E.sec.length r1)).set 1 (.slice p2 E.cache.length r2)).other (fun e => HPSN.out.1 e.symm) _ _
  have BSP : Box (((y.setCell ⟨pg, 0, none⟩ (.slice p1 E.sec.length r1)).setCell ⟨pg, 1, none⟩ (.slice p2 E.cache.length r2)).setCell ⟨ps, 2, none⟩ (.int .i64 (tx.size : Int))) ps #[.int .i64 (N : Int), .int .i64 ng, .int .i64 (tx.size : Int), .slice none 0 0] 76 := (((BS3.later ky).other HPSN.out.1 _ _).other HPSN.out.1 _ _).set 2 (.int .i64 (tx.size : Int))
  have blk : ∀ q, q < y.heap.size → q ≠ pg → q ≠ ps → (((y.setCell ⟨pg, 0, none⟩ (.slice p1 E.sec.length r1)).setCell ⟨pg, 1, none⟩ (.slice p2 E.cache.length r2)).setCell ⟨ps, 2, none⟩ (.int .i64 (tx.size : Int))).heap[q]? = y.heap[q]? := fun q hq h1 h2 => by
    have ga := (stored_grown y pg 0 (.slice p1 E.sec.length r1)).block q hq (fun e => h1 (Option.some.inj e))
    have gb := (stored_grown (y.setCell ⟨pg, 0, none⟩ (.slice p1 E.sec.length r1)) pg 1 (.slice p2 E.cache.length r2)).block q (by simpa using hq) (fun e => h1 (Option.some.inj e))
    have gc := (stored_grown ((y.setCell ⟨pg, 0, none⟩ (.slice p1 E.sec.length r1)).setCell ⟨pg, 1, none⟩ (.slice p2 E.cache.length r2)) ps 2 (.int .i64 (tx.size : Int))).block q (by simpa using hq) (fun e => h2 (Option.some.inj e))
    exact gc.trans (gb.trans ga)
  have hz7 : (((y.setCell ⟨pg, 0, none⟩ (.slice p1 E.sec.length r1)).setCell ⟨pg, 1, none⟩ (.slice p2 E.cache.length r2)).setCell ⟨ps, 2, none⟩ (.int .i64 (tx.size : Int))).heap.size = y.heap.size := by simp
  have hoz : Hid ((((y.setCell ⟨pg, 0, none⟩ (.slice p1 E.sec.length r1)).setCell ⟨pg, 1, none⟩ (.slice p2 E.cache.length r2)).setCell ⟨ps, 2, none⟩ (.int .i64 (tx.size : Int))).os = y.os ∧ (((y.setCell ⟨pg, 0, none⟩ (.slice p1 E.sec.length r1)).setCell ⟨pg, 1, none⟩ (.slice p2 E.cache.length r2)).setCell ⟨ps, 2, none⟩ (.int .i64 (tx.size : Int))).tape = y.tape ∧ (((y.setCell ⟨pg, 0, none⟩ (.slice p1 E.sec.length r1)).setCell ⟨pg, 1, none⟩ (.slice p2 E.cache.length r2)).setCell ⟨ps, 2, none⟩ (.int .i64 (tx.size : Int))).output = y.output) := by
    have ga := stored_grown y pg 0 (.slice p1 E.sec.length r1)
    have gb := stored_grown (y.setCell ⟨pg, 0, none⟩ (.slice p1 E.sec.length r1)) pg 1 (.slice p2 E.cache.length r2)
    have gc := stored_grown ((y.setCell ⟨pg, 0, none⟩ (.slice p1 E.sec.length r1)).setCell ⟨pg, 1, none⟩ (.slice p2 E.cache.length r2)) ps 2 (.int .i64 (tx.size : Int))
    exact ⟨gc.os.trans (gb.os.trans ga.os), gc.tape.trans (gb.tape.trans ga.tape), gc.output.trans (gb.output.trans ga.output)⟩
  have hps3 : Hid (ps < w3.heap.size ∧ w.heap.size ≤ w3.heap.size ∧ w3.heap.size ≤ y.heap.size) := ⟨BS3.lt, j3.size, ky.size⟩
  clear HWB3 HOS HON HOL HNO BS3 hO k1 j3 ky
  go_upto_region 8 with fail
  generalize ((y.setCell ⟨pg, 0, none⟩ (.slice p1 E.sec.length r1)).setCell ⟨pg, 1, none⟩ (.slice p2 E.cache.length r2)).setCell ⟨ps, 2, none⟩ (.int .i64 (tx.size : Int)) = w7 at BXP BSP blk hz7 hoz ⊢
  have HBLK := Lib.hid blk
  have HZ7 := Lib.hid hz7
  have HJY := Lib.hid jy
  have HNE : Hid (ps ≠ pg) := HPSN.out.1
  have hTw := HP.out.use.le
  have hPG := HPG.out
  have hPS := HPSN.out.2
  have B7 : Hid (∀ q, q < w.heap.size → q ≠ pg → w7.heap[q]? = w.heap[q]?) := fun q hq h1 => (HBLK.out q (Nat.lt_of_lt_of_le hq HJY.out.size) h1 (by omega)).trans (HJY.out.block q hq)
  have hz7w : w.heap.size ≤ w7.heap.size := by rw [HZ7.out]; exact HJY.out.size
  have G : SgO B w7 (.slice au hs.length cu) us hs := HP.out.use.own.stay hz7w (fun k e => B7.out k (HP.out.use.own.where'.1 k e).2 (by have := HP.out.use.row k e; have := (HP.out.use.own.where'.1 k e).1; omega)) (fun j x hj k e => B7.out k (HP.out.use.own.where'.2 j x hj k e).2 (by have := HP.out.use.its j x hj k e; have := (HP.out.use.own.where'.2 j x hj k e).1; omega))
  have HROW : Hid (∀ k, (Value.slice au hs.length cu).ownBlock = some k → k < T) := HP.out.use.row
  have HDZ : Hid (DOwn w3.heap.size y.heap.size w7 (.agg #[.slice p1 E.sec.length r1, .slice p2 E.cache.length r2]) E) := oy.stayO (by rw [HZ7.out]; exact Nat.le_refl _) (fun q h1 h2 => HBLK.out q h2 (by have := hps3.out; omega) (by have := hps3.out; omega))
  have HG7 : Hid (GrO pg B T w w7) := ⟨hoz.out.1.trans HJY.out.os, hoz.out.2.1.trans HJY.out.tape, hoz.out.2.2.trans HJY.out.output, hz7w, fun q hq h1 _ => B7.out q hq h1⟩
  clear blk hz7 jy oy hoz
  go_cut [50] (fun v wx => ∃ (a : Option Addr) (c : Nat) (z : World), v = .slice a (hs.length + 1) c ∧ SgO B z (.slice a (hs.length + 1) c) (us ++ [⟨(N : Int), ng, (tx.size : Int), []⟩]) (hs ++ [(⟨(N : Int), ng, (tx.size : Int), none, 0, 0⟩ : SgH)]) ∧ Box z pg #[.slice p1 E.sec.length r1, .slice p2 E.cache.length r2, .int .i64 segs, .slice au hs.length cu, .int .i64 ng, .int .i64 ns, .int .i64 st, .int .i64 nv] 55 ∧ Kept B T w7 z ∧ (∀ k, (Value.slice a (hs.length + 1) c).ownBlock = some k → k < T ∨ w7.heap.size ≤ k) ∧ wx = z.setCell ⟨pg, 3, none⟩ (.slice a (hs.length + 1) c))
  case first =>
    clear HP HB HH HOS8 HDZ HG7 B7 HBLK HJY
    refine wp_region_held_drew (S := fun x => Box x ps #[.int .i64 (N : Int), .int .i64 ng, .int .i64 (tx.size : Int), .slice none 0 0] 76) (by kernel_rfl) BSP (fun hHeld => ?_)
    refine takeL (i := 0) (v := .pointer (some ⟨pg, 0, none⟩)) rfl (by kernel_rfl) (by kernel_rfl) (by kernel_rfl) (fun _ _ _ h => h) (Or.inl ⟨by rfl, ?_⟩) (by assumption) ?_
    · intro x hSx; go_simp
    try simp only [Act.put, List.setIfInBounds_toArray, List.set_cons_zero, List.set_cons_succ]
    refine takeL (i := 1) (v := .pointer (some ⟨pg, 0, none⟩)) rfl (by kernel_rfl) (by kernel_rfl) (by kernel_rfl) (fun _ _ _ h => h) (Or.inl ⟨by rfl, ?_⟩) (by assumption) ?_
    · intro x hSx; go_simp
    try simp only [Act.put, List.setIfInBounds_toArray, List.set_cons_zero, List.set_cons_succ]
    refine takeL (i := 2) (v := .pointer (some ⟨pg, 0, none⟩)) rfl (by kernel_rfl) (by kernel_rfl) (by kernel_rfl) (fun _ _ _ h => h) (Or.inl ⟨by rfl, ?_⟩) (by assumption) ?_
    · intro x hSx; go_simp
    try simp only [Act.put, List.setIfInBounds_toArray, List.set_cons_zero, List.set_cons_succ]
    refine takeL (i := 3) (v := .pointer (some ⟨pg, 3, none⟩)) rfl (by kernel_rfl) (by kernel_rfl) (by kernel_rfl) (fun _ _ _ h => h) (Or.inl ⟨by rfl, ?_⟩) (by assumption) ?_
    · intro x hSx; go_simp
    try simp only [Act.put, List.setIfInBounds_toArray, List.set_cons_zero, List.set_cons_succ]
    refine takeL (i := 5) (v := .agg #[.int .i64 (N : Int), .int .i64 ng, .int .i64 (tx.size : Int), .slice none 0 0]) rfl (by kernel_rfl) (by kernel_rfl) (by kernel_rfl) (fun _ _ _ h => h) (Or.inl ⟨by rfl, ?_⟩) (by assumption) ?_
    · intro x hSx; obtain ⟨b0, b1, b2, b3, _⟩ := Box.fourH hSx; go_simp
    try simp only [Act.put, List.setIfInBounds_toArray, List.set_cons_zero, List.set_cons_succ]
    replace BXP : Box w7.drew pg _ _ := BXP
    replace G : SgO B w7.drew _ us hs := G.later (belDrewF w7)
    have KK : Kept B T w7 w7.drew := Kept.of_below (belDrewF w7) B T
    generalize w7.drew = Y0 at hHeld BXP G KK ⊢
    refine wpAnyH_ready (rs := [4, 6]) (by kernel_rfl) (by simp) ?_
    refine readyTwo rfl rfl (fun K' hK => ?_) (fun K' hK => ?_)
    · skip
      have c3 := BXP.cell 3 _ rfl
      go_simp
      clear c3
      refine hK.out _ _ (hHeld) (fun hS2 => ?_)
      clear hK K' hHeld
      have hHeld := hS2
      clear hS2
      try simp only [Act.put, List.setIfInBounds_toArray, List.set_cons_zero, List.set_cons_succ]
      refine wpAnyH_ready (rs := [6]) (by kernel_rfl) (by simp) ?_
      refine readyOne rfl (fun K' hK => ?_)
      go_simp
      refine hK.out _ _ (hHeld.later (belNew Y0 (.cells #[.int .i64 (N : Int), .int .i64 ng, .int .i64 (tx.size : Int), .slice none 0 0] 76))) (fun hS2 => ?_)
      clear hK K' hHeld
      have hHeld := hS2
      clear hS2
      try simp only [Act.put, List.setIfInBounds_toArray, List.set_cons_zero, List.set_cons_succ]
      have L : RBuf sgE Y0.heap.size (Y0.alloc (.cells #[.int .i64 (N : Int), .int .i64 ng, .int .i64 (tx.size : Int), .slice none 0 0] 76)) (Y0.alloc (.cells #[.int .i64 (N : Int), .int .i64 ng, .int .i64 (tx.size : Int), .slice none 0 0] 76)) (.slice (some ⟨Y0.heap.size, 0, none⟩) 1 1) [(⟨(N : Int), ng, (tx.size : Int), none, 0, 0⟩ : SgH)] := RBuf.lit1 sgE Y0 (⟨(N : Int), ng, (tx.size : Int), none, 0, 0⟩ : SgH)
      replace BXP := BXP.later (belNew Y0 (.cells #[.int .i64 (N : Int), .int .i64 ng, .int .i64 (tx.size : Int), .slice none 0 0] 76))
      replace G := G.later (belNew Y0 (.cells #[.int .i64 (N : Int), .int .i64 ng, .int .i64 (tx.size : Int), .slice none 0 0] 76))
      replace KK := KK.trans (Kept.of_below (belNew Y0 (.cells #[.int .i64 (N : Int), .int .i64 ng, .int .i64 (tx.size : Int), .slice none 0 0] 76)) B T)
      generalize Y0.alloc (.cells #[.int .i64 (N : Int), .int .i64 ng, .int .i64 (tx.size : Int), .slice none 0 0] 76) = Y1 at hHeld L BXP G KK ⊢
      generalize Y0.heap.size = ga2 at L ⊢
      refine wpAnyH_ready (rs := [7]) (by kernel_rfl) (by simp) ?_
      refine readyOne rfl (fun K' hK => ?_)
      refine step_append_rows rfl _ _ sgE rfl B _ hs rfl G.row _ _ [(⟨(N : Int), ng, (tx.size : Int), none, 0, 0⟩ : SgH)] rfl L (by show _ * 49 ≤ _; simp only [List.length_cons, List.length_nil]; have := HHL.out; omega) ?_
      intro v' Y3 r' g' at' hlt'
      obtain ⟨va', vc', hvf⟩ := r'.form
      simp only [List.length_append, List.length_cons, List.length_nil, Nat.zero_add] at hvf
      subst hvf
      have nP := BXP.notRow G.row (by decide)
      have nS : (Value.slice au hs.length cu).ownBlock ≠ some ps := fun e => by have := HROW.out ps e; omega
      have G' := G.push ⟨(N : Int), ng, (tx.size : Int), []⟩ (⟨(N : Int), ng, (tx.size : Int), none, 0, 0⟩ : SgH) ⟨rfl, rfl, rfl⟩ ⟨World.ownsRow_nil _ _ _ _, Below.refl _ _, G.row.le⟩ (fun k hk => by cases hk) (fun j y hj k hk e => by cases e) r' g' at'
      refine hK.out _ _ ((g'.block ps hHeld.lt (fun e => nS e.symm)).trans hHeld) (fun hS2 => ?_)
      clear hK K' hHeld
      have hHeld := hS2
      clear hS2
      try simp only [Act.put, List.setIfInBounds_toArray, List.set_cons_zero, List.set_cons_succ]
      replace BXP : Box _ pg _ _ := (g'.block pg BXP.lt (fun e => nP e.symm)).trans BXP
      have HV : Hid (∀ k, (Value.slice va' (hs.length + 1) vc').ownBlock = some k → k < T ∨ w7.heap.size ≤ k) := fun k hk => by
        rcases at' with e | e
        · rw [e] at hk; exact .inl (HROW.out k hk)
        · rw [e] at hk; have := Option.some.inj hk; have := KK.size; exact .inr (by omega)
      replace KK := KK.trans (Kept.of_grown g' (fun k hk => ⟨(hlt' k hk).1, HROW.out k hk⟩))
      clear G nP nS
      refine takeL (i := 8) (v := .pointer (some ⟨pg, 0, none⟩)) rfl (by kernel_rfl) (by kernel_rfl) (by kernel_rfl) (fun _ _ _ h => h) (Or.inl ⟨by rfl, ?_⟩) (by assumption) ?_
      · intro x hSx; go_simp
      try simp only [Act.put, List.setIfInBounds_toArray, List.set_cons_zero, List.set_cons_succ]
      refine takeL (i := 9) (v := .pointer (some ⟨pg, 3, none⟩)) rfl (by kernel_rfl) (by kernel_rfl) (by kernel_rfl) (fun _ _ _ h => h) (Or.inl ⟨by rfl, ?_⟩) (by assumption) ?_
      · intro x hSx; go_simp
      try simp only [Act.put, List.setIfInBounds_toArray, List.set_cons_zero, List.set_cons_succ]
      refine wpAnyH_ready (rs := [10]) (by kernel_rfl) (by simp) ?_
      refine readyOne rfl (fun K' hK => ?_)
      have c3 := BXP.cell 3 _ rfl
      have f3 := BXP.loose 3
      go_simp
      clear c3 f3
      refine hK.out _ _ (hHeld.other HNE.out _ _) (fun hS2 => ?_)
      clear hK K' hS2
      try simp only [Act.put, List.setIfInBounds_toArray, List.set_cons_zero, List.set_cons_succ]
      refine wpAnyH_done (by kernel_rfl) ?_ _
      go_wp2_with fail
      go_meet
      exact ⟨va', vc', Y3, rfl, G', BXP, KK, HV.out, rfl⟩
    · skip
      go_simp
      refine hK.out _ _ (hHeld.later (belNew Y0 (.cells #[.int .i64 (N : Int), .int .i64 ng, .int .i64 (tx.size : Int), .slice none 0 0] 76))) (fun hS2 => ?_)
      clear hK K' hHeld
      have hHeld := hS2
      clear hS2
      try simp only [Act.put, List.setIfInBounds_toArray, List.set_cons_zero, List.set_cons_succ]
      have L : RBuf sgE Y0.heap.size (Y0.alloc (.cells #[.int .i64 (N : Int), .int .i64 ng, .int .i64 (tx.size : Int), .slice none 0 0] 76)) (Y0.alloc (.cells #[.int .i64 (N : Int), .int .i64 ng, .int .i64 (tx.size : Int), .slice none 0 0] 76)) (.slice (some ⟨Y0.heap.size, 0, none⟩) 1 1) [(⟨(N : Int), ng, (tx.size : Int), none, 0, 0⟩ : SgH)] := RBuf.lit1 sgE Y0 (⟨(N : Int), ng, (tx.size : Int), none, 0, 0⟩ : SgH)
      replace BXP := BXP.later (belNew Y0 (.cells #[.int .i64 (N : Int), .int .i64 ng, .int .i64 (tx.size : Int), .slice none 0 0] 76))
      replace G := G.later (belNew Y0 (.cells #[.int .i64 (N : Int), .int .i64 ng, .int .i64 (tx.size : Int), .slice none 0 0] 76))
      replace KK := KK.trans (Kept.of_below (belNew Y0 (.cells #[.int .i64 (N : Int), .int .i64 ng, .int .i64 (tx.size : Int), .slice none 0 0] 76)) B T)
      generalize Y0.alloc (.cells #[.int .i64 (N : Int), .int .i64 ng, .int .i64 (tx.size : Int), .slice none 0 0] 76) = Y4 at hHeld L BXP G KK ⊢
      generalize Y0.heap.size = ga5 at L ⊢
      refine wpAnyH_ready (rs := [4]) (by kernel_rfl) (by simp) ?_
      refine readyOne rfl (fun K' hK => ?_)
      have c3 := BXP.cell 3 _ rfl
      go_simp
      clear c3
      refine hK.out _ _ (hHeld) (fun hS2 => ?_)
      clear hK K' hHeld
      have hHeld := hS2
      clear hS2
      try simp only [Act.put, List.setIfInBounds_toArray, List.set_cons_zero, List.set_cons_succ]
      refine wpAnyH_ready (rs := [7]) (by kernel_rfl) (by simp) ?_
      refine readyOne rfl (fun K' hK => ?_)
      refine step_append_rows rfl _ _ sgE rfl B _ hs rfl G.row _ _ [(⟨(N : Int), ng, (tx.size : Int), none, 0, 0⟩ : SgH)] rfl L (by show _ * 49 ≤ _; simp only [List.length_cons, List.length_nil]; have := HHL.out; omega) ?_
      intro v' Y6 r' g' at' hlt'
      obtain ⟨va', vc', hvf⟩ := r'.form
      simp only [List.length_append, List.length_cons, List.length_nil, Nat.zero_add] at hvf
      subst hvf
      have nP := BXP.notRow G.row (by decide)
      have nS : (Value.slice au hs.length cu).ownBlock ≠ some ps := fun e => by have := HROW.out ps e; omega
      have G' := G.push ⟨(N : Int), ng, (tx.size : Int), []⟩ (⟨(N : Int), ng, (tx.size : Int), none, 0, 0⟩ : SgH) ⟨rfl, rfl, rfl⟩ ⟨World.ownsRow_nil _ _ _ _, Below.refl _ _, G.row.le⟩ (fun k hk => by cases hk) (fun j y hj k hk e => by cases e) r' g' at'
      refine hK.out _ _ ((g'.block ps hHeld.lt (fun e => nS e.symm)).trans hHeld) (fun hS2 => ?_)
      clear hK K' hHeld
      have hHeld := hS2
      clear hS2
      try simp only [Act.put, List.setIfInBounds_toArray, List.set_cons_zero, List.set_cons_succ]
      replace BXP : Box _ pg _ _ := (g'.block pg BXP.lt (fun e => nP e.symm)).trans BXP
      have HV : Hid (∀ k, (Value.slice va' (hs.length + 1) vc').ownBlock = some k → k < T ∨ w7.heap.size ≤ k) := fun k hk => by
        rcases at' with e | e
        · rw [e] at hk; exact .inl (HROW.out k hk)
        · rw [e] at hk; have := Option.some.inj hk; have := KK.size; exact .inr (by omega)
      replace KK := KK.trans (Kept.of_grown g' (fun k hk => ⟨(hlt' k hk).1, HROW.out k hk⟩))
      clear G nP nS
      refine takeL (i := 8) (v := .pointer (some ⟨pg, 0, none⟩)) rfl (by kernel_rfl) (by kernel_rfl) (by kernel_rfl) (fun _ _ _ h => h) (Or.inl ⟨by rfl, ?_⟩) (by assumption) ?_
      · intro x hSx; go_simp
      try simp only [Act.put, List.setIfInBounds_toArray, List.set_cons_zero, List.set_cons_succ]
      refine takeL (i := 9) (v := .pointer (some ⟨pg, 3, none⟩)) rfl (by kernel_rfl) (by kernel_rfl) (by kernel_rfl) (fun _ _ _ h => h) (Or.inl ⟨by rfl, ?_⟩) (by assumption) ?_
      · intro x hSx; go_simp
      try simp only [Act.put, List.setIfInBounds_toArray, List.set_cons_zero, List.set_cons_succ]
      refine wpAnyH_ready (rs := [10]) (by kernel_rfl) (by simp) ?_
      refine readyOne rfl (fun K' hK => ?_)
      have c3 := BXP.cell 3 _ rfl
      have f3 := BXP.loose 3
      go_simp
      clear c3 f3
      refine hK.out _ _ (hHeld.other HNE.out _ _) (fun hS2 => ?_)
      clear hK K' hS2
      try simp only [Act.put, List.setIfInBounds_toArray, List.set_cons_zero, List.set_cons_succ]
      refine wpAnyH_done (by kernel_rfl) ?_ _
      go_wp2_with fail
      go_meet
      exact ⟨va', vc', Y6, rfl, G', BXP, KK, HV.out, rfl⟩
  case rest =>
  obtain ⟨a9, c9, z, rfl, G9, BZ0, KZ, hv9, rfl⟩ := hcut
  have BZ := BZ0.set 3 (.slice a9 (hs.length + 1) c9)
  have c4 := BZ.cell 4 _ rfl
  have f4 := BZ.loose 4
  have hw1 : IntKind.i64.wrap (ng + 1) = ng + 1 := IntWalk.i64_in _ ⟨by omega, by omega⟩
  have HFIN : Hid (OpI ⟨d, segs, us, ng, ns, st, nv⟩ keep pg B T 55 (.slice aa d.sec.length ca) (.slice ab d.cache.length cb) (.slice au hs.length cu) hs w (.returned (.bool true)) ((z.setCell ⟨pg, 3, none⟩ (.slice a9 (hs.length + 1) c9)).setCell ⟨pg, 4, none⟩ (.int .i64 (ng + 1)))) := by
    have gZ : z.grownBy ((z.setCell ⟨pg, 3, none⟩ (.slice a9 (hs.length + 1) c9)).setCell ⟨pg, 4, none⟩ (.int .i64 (ng + 1))) (some pg) := grownBy_storeO (stored_grown z pg 3 _) 4 _
    have BF := BZ.set 4 (.int .i64 (ng + 1))
    generalize (z.setCell ⟨pg, 3, none⟩ (.slice a9 (hs.length + 1) c9)).setCell ⟨pg, 4, none⟩ (.int .i64 (ng + 1)) = Z at gZ BF ⊢
    have hP9 := hps3.out
    have hz9 := HZ7.out
    have hks := KZ.size
    have GZ : SgO B Z (.slice a9 (hs.length + 1) c9) (us ++ [⟨(N : Int), ng, (tx.size : Int), []⟩]) (hs ++ [(⟨(N : Int), ng, (tx.size : Int), none, 0, 0⟩ : SgH)]) := by
      refine G9.stay gZ.size (fun k e => gZ.block k (G9.where'.1 k e).2 (fun e2 => ?_)) (fun j x hj k e => gZ.block k (G9.where'.2 j x hj k e).2 (fun e2 => ?_))
      · have := Option.some.inj e2; subst this
        exact BZ0.notRow G9.row (by decide) e
      · have := Option.some.inj e2; subst this
        have hl9 : j < (hs ++ [(⟨(N : Int), ng, (tx.size : Int), none, 0, 0⟩ : SgH)]).length := (List.getElem?_eq_some_iff.1 hj).1
        have hb9 : (us ++ [(⟨(N : Int), ng, (tx.size : Int), []⟩ : Sg)])[j]? = some ((us ++ [(⟨(N : Int), ng, (tx.size : Int), []⟩ : Sg)])[j]'(by rw [← G9.len]; exact hl9)) := List.getElem?_eq_getElem _
        exact BZ0.notRow (G9.at' j x _ hj hb9).2 (by decide) e
    have its9 : ∀ (j : Nat) (x9 : SgH), (hs ++ [(⟨(N : Int), ng, (tx.size : Int), none, 0, 0⟩ : SgH)])[j]? = some x9 → ∀ k, x9.mv.ownBlock = some k → k < T := fun j x9 hj k hk => by
      by_cases hc : j < hs.length
      · rw [List.getElem?_append_left hc] at hj
        exact HP.out.use.its j x9 hj k hk
      · rw [List.getElem?_append_right (by omega)] at hj
        have hj0 : j - hs.length = 0 := by
          have := (List.getElem?_eq_some_iff.1 hj).1
          simp at this; omega
        rw [hj0] at hj
        simp at hj
        subst hj
        cases hk
    have dZ := (HDZ.out.kept KZ (.inr (by omega))).stayO gZ.size (fun q h1 h2 => gZ.block q (by omega) (fun e => by have := Option.some.inj e; omega))
    refine ⟨(HG7.out.trans (GrO.of_kept KZ)).trans (GrO.of_grown gZ), .inr ⟨_, .slice p1 E.sec.length r1, .slice p2 E.cache.length r2, .slice a9 (hs.length + 1) c9, hs ++ [(⟨(N : Int), ng, (tx.size : Int), none, 0, 0⟩ : SgH)], HOS8.out, rfl, BF, ?_⟩⟩
    exact LgP.mkV dZ GZ.gown (by have := HP.out.use.own.row.le; omega) (fun k hk => by rcases hv9 k hk with h | h <;> omega) (fun j x9 hj k hk => by have := its9 j x9 hj k hk; omega)
  clear BZ BZ0 G9 KZ hv9 BXP BSP G
  go_wp2
  go_ret
  exact HFIN.out

end Go.Proofs.YtgcnebepklelpaaGreatDoor

/- A log that was opened is closed again: closed of the program. -/
namespace Go.Proofs.YtgcnebepklelpaaGreatDoor
open Go.RowKit

set_option maxRecDepth 100000 in
set_option maxHeartbeats 4000000 in
theorem closed_any (aa ab au : Option Addr) (n1 n2 n3 ca cb cu : Nat) (segs ng ns st nv : Int) (pg : Nat) (w : World) (hb : Box w pg #[.slice aa n1 ca, .slice ab n2 cb, .int .i64 segs, .slice au n3 cu, .int .i64 ng, .int .i64 ns, .int .i64 st, .int .i64 nv] 55) :
    Calls Tryz.prog 26 #[.pointer (some ⟨pg, 0, none⟩)] w fun e w' => e = .returned (.agg #[.slice aa n1 ca, .slice ab n2 cb, .int .i64 segs, .slice au n3 cu, .int .i64 ng, .int .i64 ns, .int .i64 st, .int .i64 nv]) ∧ Below w.heap.size w w' := by
  have b1 := belNew w (.cells #[.slice none 0 0, .slice none 0 0, .int .i64 0, .slice none 0 0, .int .i64 0, .int .i64 0, .int .i64 0, .int .i64 0] 28)
  have XR := Box.new w #[.slice none 0 0, .slice none 0 0, .int .i64 0, .slice none 0 0, .int .i64 0, .int .i64 0, .int .i64 0, .int .i64 0] 28
  have BP := hb.later b1
  have HNE : Hid (pg ≠ w.heap.size) := by have := hb.lt; show _ ≠ _; omega
  clear hb
  go_enter Tryz.func26, Tryz.ntmps26
  go_upto_region 1 with fail
  generalize w.alloc (.cells #[.slice none 0 0, .slice none 0 0, .int .i64 0, .slice none 0 0, .int .i64 0, .int .i64 0, .int .i64 0, .int .i64 0] 28) = w1 at b1 XR BP ⊢
  refine wp_region_held_drew (S := fun x => Box x pg #[.slice aa n1 ca, .slice ab n2 cb, .int .i64 segs, .slice au n3 cu, .int .i64 ng, .int .i64 ns, .int .i64 st, .int .i64 nv] 55) (by kernel_rfl) BP (fun hHeld => ?_)
  refine takeL (i := 0) (v := .pointer (some ⟨pg, 0, none⟩)) rfl (by kernel_rfl) (by kernel_rfl) (by kernel_rfl) (fun _ _ _ h => h) (Or.inl ⟨by rfl, ?_⟩) (by assumption) ?_
  · intro x hSx; go_simp
  try simp only [Act.put, List.setIfInBounds_toArray, List.set_cons_zero, List.set_cons_succ]
  refine takeL (i := 1) (v := .pointer (some ⟨pg, 0, none⟩)) rfl (by kernel_rfl) (by kernel_rfl) (by kernel_rfl) (fun _ _ _ h => h) (Or.inl ⟨by rfl, ?_⟩) (by assumption) ?_
  · intro x hSx; go_simp
  try simp only [Act.put, List.setIfInBounds_toArray, List.set_cons_zero, List.set_cons_succ]
  refine takeL (i := 2) (v := .pointer (some ⟨pg, 0, none⟩)) rfl (by kernel_rfl) (by kernel_rfl) (by kernel_rfl) (fun _ _ _ h => h) (Or.inl ⟨by rfl, ?_⟩) (by assumption) ?_
  · intro x hSx; go_simp
  try simp only [Act.put, List.setIfInBounds_toArray, List.set_cons_zero, List.set_cons_succ]
  refine takeL (i := 3) (v := .agg #[.slice aa n1 ca, .slice ab n2 cb]) rfl (by kernel_rfl) (by kernel_rfl) (by kernel_rfl) (fun _ _ _ h => h) (Or.inl ⟨by rfl, ?_⟩) (by assumption) ?_
  · intro x hSx; obtain ⟨b0, b1, b2, b3, b4, b5, b6, b7⟩ := Box.eightO hSx; go_simp
  try simp only [Act.put, List.setIfInBounds_toArray, List.set_cons_zero, List.set_cons_succ]
  refine takeL (i := 4) (v := .pointer (some ⟨pg, 0, none⟩)) rfl (by kernel_rfl) (by kernel_rfl) (by kernel_rfl) (fun _ _ _ h => h) (Or.inl ⟨by rfl, ?_⟩) (by assumption) ?_
  · intro x hSx; go_simp
  try simp only [Act.put, List.setIfInBounds_toArray, List.set_cons_zero, List.set_cons_succ]
  refine takeL (i := 5) (v := .pointer (some ⟨pg, 0, none⟩)) rfl (by kernel_rfl) (by kernel_rfl) (by kernel_rfl) (fun _ _ _ h => h) (Or.inl ⟨by rfl, ?_⟩) (by assumption) ?_
  · intro x hSx; go_simp
  try simp only [Act.put, List.setIfInBounds_toArray, List.set_cons_zero, List.set_cons_succ]
  refine takeL (i := 6) (v := .pointer (some ⟨pg, 2, none⟩)) rfl (by kernel_rfl) (by kernel_rfl) (by kernel_rfl) (fun _ _ _ h => h) (Or.inl ⟨by rfl, ?_⟩) (by assumption) ?_
  · intro x hSx; go_simp
  try simp only [Act.put, List.setIfInBounds_toArray, List.set_cons_zero, List.set_cons_succ]
  refine takeL (i := 7) (v := .int .i64 segs) rfl (by kernel_rfl) (by kernel_rfl) (by kernel_rfl) (fun _ _ _ h => h) (Or.inl ⟨by rfl, ?_⟩) (by assumption) ?_
  · intro x hSx; obtain ⟨b0, b1, b2, b3, b4, b5, b6, b7⟩ := Box.eightO hSx; go_simp
  try simp only [Act.put, List.setIfInBounds_toArray, List.set_cons_zero, List.set_cons_succ]
  refine takeL (i := 8) (v := .pointer (some ⟨pg, 0, none⟩)) rfl (by kernel_rfl) (by kernel_rfl) (by kernel_rfl) (fun _ _ _ h => h) (Or.inl ⟨by rfl, ?_⟩) (by assumption) ?_
  · intro x hSx; go_simp
  try simp only [Act.put, List.setIfInBounds_toArray, List.set_cons_zero, List.set_cons_succ]
  refine takeL (i := 9) (v := .pointer (some ⟨pg, 0, none⟩)) rfl (by kernel_rfl) (by kernel_rfl) (by kernel_rfl) (fun _ _ _ h => h) (Or.inl ⟨by rfl, ?_⟩) (by assumption) ?_
  · intro x hSx; go_simp
  try simp only [Act.put, List.setIfInBounds_toArray, List.set_cons_zero, List.set_cons_succ]
  refine takeL (i := 10) (v := .pointer (some ⟨pg, 3, none⟩)) rfl (by kernel_rfl) (by kernel_rfl) (by kernel_rfl) (fun _ _ _ h => h) (Or.inl ⟨by rfl, ?_⟩) (by assumption) ?_
  · intro x hSx; go_simp
  try simp only [Act.put, List.setIfInBounds_toArray, List.set_cons_zero, List.set_cons_succ]
  refine takeL (i := 11) (v := .slice au n3 cu) rfl (by kernel_rfl) (by kernel_rfl) (by kernel_rfl) (fun _ _ _ h => h) (Or.inl ⟨by rfl, ?_⟩) (by assumption) ?_
  · intro x hSx; obtain ⟨b0, b1, b2, b3, b4, b5, b6, b7⟩ := Box.eightO hSx; go_simp
  try simp only [Act.put, List.setIfInBounds_toArray, List.set_cons_zero, List.set_cons_succ]
  refine takeL (i := 12) (v := .pointer (some ⟨pg, 0, none⟩)) rfl (by kernel_rfl) (by kernel_rfl) (by kernel_rfl) (fun _ _ _ h => h) (Or.inl ⟨by rfl, ?_⟩) (by assumption) ?_
  · intro x hSx; go_simp
  try simp only [Act.put, List.setIfInBounds_toArray, List.set_cons_zero, List.set_cons_succ]
  refine takeL (i := 13) (v := .pointer (some ⟨pg, 0, none⟩)) rfl (by kernel_rfl) (by kernel_rfl) (by kernel_rfl) (fun _ _ _ h => h) (Or.inl ⟨by rfl, ?_⟩) (by assumption) ?_
  · intro x hSx; go_simp
  try simp only [Act.put, List.setIfInBounds_toArray, List.set_cons_zero, List.set_cons_succ]
  refine takeL (i := 14) (v := .pointer (some ⟨pg, 4, none⟩)) rfl (by kernel_rfl) (by kernel_rfl) (by kernel_rfl) (fun _ _ _ h => h) (Or.inl ⟨by rfl, ?_⟩) (by assumption) ?_
  · intro x hSx; go_simp
  try simp only [Act.put, List.setIfInBounds_toArray, List.set_cons_zero, List.set_cons_succ]
  refine takeL (i := 15) (v := .int .i64 ng) rfl (by kernel_rfl) (by kernel_rfl) (by kernel_rfl) (fun _ _ _ h => h) (Or.inl ⟨by rfl, ?_⟩) (by assumption) ?_
  · intro x hSx; obtain ⟨b0, b1, b2, b3, b4, b5, b6, b7⟩ := Box.eightO hSx; go_simp
  try simp only [Act.put, List.setIfInBounds_toArray, List.set_cons_zero, List.set_cons_succ]
  refine takeL (i := 16) (v := .pointer (some ⟨pg, 0, none⟩)) rfl (by kernel_rfl) (by kernel_rfl) (by kernel_rfl) (fun _ _ _ h => h) (Or.inl ⟨by rfl, ?_⟩) (by assumption) ?_
  · intro x hSx; go_simp
  try simp only [Act.put, List.setIfInBounds_toArray, List.set_cons_zero, List.set_cons_succ]
  refine takeL (i := 17) (v := .pointer (some ⟨pg, 0, none⟩)) rfl (by kernel_rfl) (by kernel_rfl) (by kernel_rfl) (fun _ _ _ h => h) (Or.inl ⟨by rfl, ?_⟩) (by assumption) ?_
  · intro x hSx; go_simp
  try simp only [Act.put, List.setIfInBounds_toArray, List.set_cons_zero, List.set_cons_succ]
  refine takeL (i := 18) (v := .pointer (some ⟨pg, 5, none⟩)) rfl (by kernel_rfl) (by kernel_rfl) (by kernel_rfl) (fun _ _ _ h => h) (Or.inl ⟨by rfl, ?_⟩) (by assumption) ?_
  · intro x hSx; go_simp
  try simp only [Act.put, List.setIfInBounds_toArray, List.set_cons_zero, List.set_cons_succ]
  refine takeL (i := 19) (v := .int .i64 ns) rfl (by kernel_rfl) (by kernel_rfl) (by kernel_rfl) (fun _ _ _ h => h) (Or.inl ⟨by rfl, ?_⟩) (by assumption) ?_
  · intro x hSx; obtain ⟨b0, b1, b2, b3, b4, b5, b6, b7⟩ := Box.eightO hSx; go_simp
  try simp only [Act.put, List.setIfInBounds_toArray, List.set_cons_zero, List.set_cons_succ]
  refine takeL (i := 20) (v := .pointer (some ⟨pg, 0, none⟩)) rfl (by kernel_rfl) (by kernel_rfl) (by kernel_rfl) (fun _ _ _ h => h) (Or.inl ⟨by rfl, ?_⟩) (by assumption) ?_
  · intro x hSx; go_simp
  try simp only [Act.put, List.setIfInBounds_toArray, List.set_cons_zero, List.set_cons_succ]
  refine takeL (i := 21) (v := .pointer (some ⟨pg, 0, none⟩)) rfl (by kernel_rfl) (by kernel_rfl) (by kernel_rfl) (fun _ _ _ h => h) (Or.inl ⟨by rfl, ?_⟩) (by assumption) ?_
  · intro x hSx; go_simp
  try simp only [Act.put, List.setIfInBounds_toArray, List.set_cons_zero, List.set_cons_succ]
  refine takeL (i := 22) (v := .pointer (some ⟨pg, 6, none⟩)) rfl (by kernel_rfl) (by kernel_rfl) (by kernel_rfl) (fun _ _ _ h => h) (Or.inl ⟨by rfl, ?_⟩) (by assumption) ?_
  · intro x hSx; go_simp
  try simp only [Act.put, List.setIfInBounds_toArray, List.set_cons_zero, List.set_cons_succ]
  refine takeL (i := 23) (v := .int .i64 st) rfl (by kernel_rfl) (by kernel_rfl) (by kernel_rfl) (fun _ _ _ h => h) (Or.inl ⟨by rfl, ?_⟩) (by assumption) ?_
  · intro x hSx; obtain ⟨b0, b1, b2, b3, b4, b5, b6, b7⟩ := Box.eightO hSx; go_simp
  try simp only [Act.put, List.setIfInBounds_toArray, List.set_cons_zero, List.set_cons_succ]
  refine takeL (i := 24) (v := .pointer (some ⟨pg, 0, none⟩)) rfl (by kernel_rfl) (by kernel_rfl) (by kernel_rfl) (fun _ _ _ h => h) (Or.inl ⟨by rfl, ?_⟩) (by assumption) ?_
  · intro x hSx; go_simp
  try simp only [Act.put, List.setIfInBounds_toArray, List.set_cons_zero, List.set_cons_succ]
  refine takeL (i := 25) (v := .pointer (some ⟨pg, 0, none⟩)) rfl (by kernel_rfl) (by kernel_rfl) (by kernel_rfl) (fun _ _ _ h => h) (Or.inl ⟨by rfl, ?_⟩) (by assumption) ?_
  · intro x hSx; go_simp
  try simp only [Act.put, List.setIfInBounds_toArray, List.set_cons_zero, List.set_cons_succ]
  refine takeL (i := 26) (v := .pointer (some ⟨pg, 7, none⟩)) rfl (by kernel_rfl) (by kernel_rfl) (by kernel_rfl) (fun _ _ _ h => h) (Or.inl ⟨by rfl, ?_⟩) (by assumption) ?_
  · intro x hSx; go_simp
  try simp only [Act.put, List.setIfInBounds_toArray, List.set_cons_zero, List.set_cons_succ]
  refine takeL (i := 27) (v := .int .i64 nv) rfl (by kernel_rfl) (by kernel_rfl) (by kernel_rfl) (fun _ _ _ h => h) (Or.inl ⟨by rfl, ?_⟩) (by assumption) ?_
  · intro x hSx; obtain ⟨b0, b1, b2, b3, b4, b5, b6, b7⟩ := Box.eightO hSx; go_simp
  try simp only [Act.put, List.setIfInBounds_toArray, List.set_cons_zero, List.set_cons_succ]
  refine takeL (i := 28) (v := .agg #[.slice aa n1 ca, .slice ab n2 cb, .int .i64 segs, .slice au n3 cu, .int .i64 ng, .int .i64 ns, .int .i64 st, .int .i64 nv]) rfl (by kernel_rfl) (by kernel_rfl) (by kernel_rfl) (fun _ _ _ h => h) (Or.inl ⟨by rfl, ?_⟩) (by assumption) ?_
  · intro x hSx; go_simp
  try simp only [Act.put, List.setIfInBounds_toArray, List.set_cons_zero, List.set_cons_succ]
  replace XR : Box w1.drew w.heap.size _ _ := XR
  replace b1 : Below w.heap.size w w1.drew := b1.drew
  generalize w1.drew = Y0 at hHeld XR b1 ⊢
  refine wpAnyH_ready (rs := [29]) (by kernel_rfl) (by simp) ?_
  refine readyOne rfl (fun K' hK => ?_)
  obtain ⟨r0, r1, r2, r3, r4, r5, r6, r7, f0, f1, f2, f3, f4, f5, f6, f7⟩ := XR.eightL
  go_simp
  clear r0 r1 r2 r3 r4 r5 r6 r7 f0 f1 f2 f3 f4 f5 f6 f7
  have RX := XR.set8L (.slice aa n1 ca) (.slice ab n2 cb) (.int .i64 segs) (.slice au n3 cu) (.int .i64 ng) (.int .i64 ns) (.int .i64 st) (.int .i64 nv)
  have BXX := below_set8L b1 (Nat.le_refl _) (.slice aa n1 ca) (.slice ab n2 cb) (.int .i64 segs) (.slice au n3 cu) (.int .i64 ng) (.int .i64 ns) (.int .i64 st) (.int .i64 nv)
  have HS8 : Box (set8L Y0 w.heap.size (.slice aa n1 ca) (.slice ab n2 cb) (.int .i64 segs) (.slice au n3 cu) (.int .i64 ng) (.int .i64 ns) (.int .i64 st) (.int .i64 nv)) pg #[.slice aa n1 ca, .slice ab n2 cb, .int .i64 segs, .slice au n3 cu, .int .i64 ng, .int .i64 ns, .int .i64 st, .int .i64 nv] 55 := ((grown_set8L Y0 w.heap.size (.slice aa n1 ca) (.slice ab n2 cb) (.int .i64 segs) (.slice au n3 cu) (.int .i64 ng) (.int .i64 ns) (.int .i64 st) (.int .i64 nv)).block pg hHeld.lt (fun e => HNE.out (Option.some.inj e))).trans hHeld
  unfold set8L at RX BXX HS8
  refine hK.out _ _ HS8 (fun hS2 => ?_)
  clear hK K' hS2 HS8
  try simp only [Act.put, List.setIfInBounds_toArray, List.set_cons_zero, List.set_cons_succ]
  refine wpAnyH_done (by kernel_rfl) ?_ _
  obtain ⟨u0, u1, u2, u3, u4, u5, u6, u7⟩ := RX.eightO
  have HBX := Lib.hid BXX
  clear RX BXX XR hHeld b1
  go_wp2
  refine bodyPost_ret (v := .agg #[.slice aa n1 ca, .slice ab n2 cb, .int .i64 segs, .slice au n3 cu, .int .i64 ng, .int .i64 ns, .int .i64 st, .int .i64 nv]) (by simp [results, Tryz.results26, go_sem, u0, u1, u2, u3, u4, u5, u6, u7]) rfl ?_
  exact ⟨rfl, HBX.out⟩

end Go.Proofs.YtgcnebepklelpaaGreatDoor

/- Whether a reference to a segment is there: refersTo of the program. -/
namespace Go.Proofs.YtgcnebepklelpaaGreatDoor
open Go.RowKit

set_option maxRecDepth 100000 in
theorem refers1_any (s : Rf) (k : Int) (g : Nat) (w : World) (h : w.cell? ⟨g, 0, none⟩ = some (.int .i64 k)) :
    Calls Tryz.prog 121 #[.agg #[.int .i64 s.1, .int .i64 s.2], .pointer (some ⟨g, 0, none⟩)] w fun e w' => e = .returned (.bool (decide (s.1 = k))) ∧ Below w.heap.size w w' := by
  have b1 := belNew w (.cells #[.int .i64 s.1, .int .i64 s.2] 80)
  have c0 := (b1.cell (p := ⟨g, 0, none⟩) (World.block_lt_of_cell? _ _ h)).trans h
  have q := (Box.new w #[.int .i64 s.1, .int .i64 s.2] 80).cell 0 _ rfl
  clear h
  obtain ⟨D, hD⟩ : ∃ D, decide (s.1 = k) = D := ⟨_, rfl⟩
  rw [hD]
  have HD := Lib.hid hD
  clear hD
  obtain ⟨s1, s2⟩ := s
  simp only at *
  by_cases hs : s1 = k
  · have HE : Hid (D = true) := by show _ = _; rw [← HD.out]; exact decide_eq_true hs
    clear HD
    subst hs
    go_enter Tryz.func121, Tryz.ntmps121
    go_wp2
    go_ret
    exact ⟨by rw [HE.out]; first | rfl | simp, b1⟩
  · have HE : Hid (D = false) := by show _ = _; rw [← HD.out]; exact decide_eq_false hs
    clear HD
    have hs' : (s1 == k) = false := beq_eq_false_iff_ne.2 hs
    go_enter Tryz.func121, Tryz.ntmps121
    go_wp2
    go_ret
    exact ⟨by rw [HE.out]; first | rfl | simp [hs'], b1⟩

set_option maxRecDepth 100000 in
set_option maxHeartbeats 2000000 in
theorem indexRef_any (l : List Rf) (v : Value) (k : Int) (gr : Nat) (w : World) (h : Rows' rfE w v l) (hl : l.length ≤ 1048576) (h0 : w.cell? ⟨gr, 0, none⟩ = some (.int .i64 k)) :
    Calls Tryz.prog 128 #[v, .func (.func 121) #[] #[.pointer (some ⟨gr, 0, none⟩)]] w fun e w' => (∃ r : Int, e = .returned (.int .i64 r) ∧ ((0 ≤ r ∧ hasR l k = true) ∨ (¬ 0 ≤ r ∧ hasR l k = false))) ∧ Below w.heap.size w w' := by
  obtain ⟨ad, cap, rfl, hrow⟩ := h.refs
  have HR : Hid _ := hrow
  clear h hrow
  obtain ⟨n, hn⟩ : ∃ n, l.length = n := ⟨_, rfl⟩
  rw [hn] at hl ⊢
  have HN := Lib.hid hn
  clear hn
  have l0 := World.block_lt_of_cell? _ _ h0
  have HO : Hid (∀ (y : Rf) x, Below w.heap.size w x → Calls Tryz.prog 121 #[.agg #[.int .i64 y.1, .int .i64 y.2], .pointer (some ⟨gr, 0, none⟩)] x fun e w' => e = .returned (.bool (decide (y.1 = k))) ∧ Below x.heap.size x w') := fun y x hx => refers1_any y k gr x ((hx.cell (p := ⟨gr, 0, none⟩) l0).trans h0)
  clear h0 l0
  obtain ⟨Q, hQ⟩ : ∃ Q, hasR l k = Q := ⟨_, rfl⟩
  rw [hQ]
  have HQ := Lib.hid hQ
  clear hQ
  go_enter Tryz.func128, Tryz.ntmps128
  go_wp2
  go_loopw [8] (fun iv wr => ∃ i : Nat, i ≤ n ∧ iv = .int .i64 (i : Int) ∧ Hid (hasR (l.take i) k = false) ∧ Below w.heap.size w wr) (fun iv _ => n - (intOf iv).toNat)
  case atStart => exact ⟨0, by omega, rfl, show _ = _ by simp [hasR], Below.refl _ _⟩
  case round =>
    obtain ⟨i, hi, rfl, HNO, bq⟩ := hrel
    by_cases hlt : i < n
    · obtain ⟨y, hgy⟩ : ∃ y, l[i]? = some y := ⟨_, List.getElem?_eq_getElem (by rw [HN.out]; omega)⟩
      obtain ⟨ga, oa, rfl, a0, a1⟩ := HR.out _ bq i y hgy
      have HOY := Lib.hid (HO.out y _ bq)
      have HT := Lib.hid (hasR_take hgy k)
      rw [HNO.out, Bool.false_or] at HT
      have HFA : Hid (decide (y.1 = k) = true → Q = true) := fun hy => by rw [← HQ.out]; exact List.any_eq_true.2 ⟨y, List.mem_of_getElem? hgy, hy⟩
      clear hgy
      generalize decide (y.1 = k) = D at HOY HT HFA
      have hi0 : (0 : Int) ≤ (i : Int) := by omega
      have hi1 : (i : Int) < (n : Int) := by omega
      cases D with
      | true =>
        have HF := Lib.hid (HFA.out rfl)
        clear HFA HT
        go_wp2_with (go_at_call 121; refine HOY.out.mono ?_; rintro e w1 ⟨rfl, k1⟩)
        go_ret
        exact ⟨⟨(i : Int), rfl, .inl ⟨hi0, HF.out⟩⟩, bq.trans (k1.mono bq.size)⟩
      | false =>
        clear HFA
        go_wp2_with (go_at_call 121; refine HOY.out.mono ?_; rintro e w1 ⟨rfl, k1⟩)
        exact ⟨⟨i + 1, by omega, by simp, HT, bq.trans (k1.mono bq.size)⟩, by first | omega | (simp [intOf]; omega)⟩
    · have HF : Hid (Q = false) := by
        have h1 := HNO.out
        rw [List.take_of_length_le (by rw [HN.out]; omega)] at h1
        rw [← HQ.out]
        exact h1
      clear HNO
      go_wp2
      go_ret
      exact ⟨⟨-1, rfl, .inr ⟨by omega, HF.out⟩⟩, bq⟩

set_option maxRecDepth 100000 in
theorem containsRef_any (l : List Rf) (v : Value) (k : Int) (gr : Nat) (w : World) (h : Rows' rfE w v l) (hl : l.length ≤ 1048576) (h0 : w.cell? ⟨gr, 0, none⟩ = some (.int .i64 k)) :
    Calls Tryz.prog 120 #[v, .func (.func 121) #[] #[.pointer (some ⟨gr, 0, none⟩)]] w fun e w' => e = .returned (.bool (hasR l k)) ∧ Below w.heap.size w w' := by
  have HI := Lib.hid (indexRef_any l v k gr w h hl h0)
  obtain ⟨ad, cap, rfl, _⟩ := h.refs
  clear h h0
  go_enter Tryz.func120, Tryz.ntmps120
  go_wp2_with fail
  refine HI.out.mono ?_
  rintro e w1 ⟨⟨r, rfl, hr⟩, k1⟩
  clear HI
  rcases hr with ⟨hr, he⟩ | ⟨hr, he⟩
  · have HE := Lib.hid he
    clear he
    go_wp2
    go_ret
    exact ⟨by rw [HE.out]; first | rfl | simp [hr], k1⟩
  · have HE := Lib.hid he
    clear he
    go_wp2
    go_ret
    exact ⟨by rw [HE.out]; first | rfl | simp [hr], k1⟩

set_option maxRecDepth 100000 in
theorem refersTo_any (l : List Rf) (v : Value) (k : Int) (w : World) (h : Rows' rfE w v l) (hl : l.length ≤ 1048576) :
    Calls Tryz.prog 111 #[v, .int .i64 k] w fun e w' => e = .returned (.bool (hasR l k)) ∧ Below w.heap.size w w' := by
  have b1 := belNew w (.cells #[.int .i64 k] 3)
  have q := (Box.new w #[.int .i64 k] 3).cell 0 _ rfl
  have HC := Lib.hid (containsRef_any l v k w.heap.size _ (h.later b1) hl q)
  obtain ⟨ad, cap, rfl, _⟩ := h.refs
  have hmf : ∀ (fn : Fn) (first cap : Array Value) (w : World), (Instr.makeFunc fn first cap).run Tryz.prog w = .ok (.func fn first cap) w := fun _ _ _ _ => rfl
  generalize hasR l k = D at HC
  clear h q
  go_enter Tryz.func111, Tryz.ntmps111
  go_wp2_with (go_at_call 120; refine HC.out.mono ?_; rintro e w1 ⟨rfl, k1⟩)
  go_ret
  exact ⟨rfl, b1.trans (k1.mono b1.size)⟩

end Go.Proofs.YtgcnebepklelpaaGreatDoor
