/- For every code: of a drawn disk on which one sector is written, and the power falls with that write torn at a drawn byte, that sector has its first bytes new and the others old, and the disk is right; nothing that was there is changed. No condition. -/
import Derived.Test.YtmmgnpjhlmiafaaPlainSect
import Derived.Test.YtmmgnpjhlmiafaaDrawPlaces
import Derived.Test.YtmmgnpjhlmiafaaImplCrash
import Derived.Test.YtmmgnpjhlmiafaaImplFlush
import Derived.Test.YtmmgnpjhlmiafaaReadSec
import Derived.ProofKit
import Derived.OpenShut
import Derived.ShutString
import Derived.ChangeOld
import Derived.Below
namespace Go.Proofs.Ytmmgnpjhlmiafaa
open Go.ChangeShapes Go.WideShapes Go.ChangeAt Go.RowKit
open Go.ChangeMaps (open_string shut_string)
set_option linter.unusedVariables false

theorem big_any (a : Option Addr) (len cap : Nat) (w : World) :
    Calls Try.prog 6 #[.slice a len cap] w fun e w' => e = .returned (.bool (decide ((1048576 : Int) < (len : Int)))) ∧ w = w' := by
  go_enter Try.func6, Try.ntmps6
  go_wp2
  go_ret
  exact ⟨rfl, rfl⟩

/-- The places that are drawn, as two numbers. -/
theorem places2 {w w' : World} {l : List Int} {v : Value} (hl : l.length = 12) (hlz : ∀ z ∈ l, 0 ≤ z ∧ z < 10000) (hib : IBuf w.heap.size w w' v l) :
    ∃ (gp cp : Nat) (z0 z1 : Nat), v = .slice (some ⟨gp, 0, none⟩) 12 cp ∧ 12 ≤ cp ∧ gp < w'.heap.size ∧ w'.cell? ⟨gp, 0, none⟩ = some (.int .i64 (z0 : Int)) ∧ w'.cell? ⟨gp, 1, none⟩ = some (.int .i64 (z1 : Int)) := by
  rcases hib.ints with ⟨h, _⟩ | ⟨g, cp, hv, hcp, hg, hcl⟩
  · rw [h] at hl; cases hl
  · have e0 := List.getElem?_eq_getElem (show 0 < l.length by omega)
    have e1 := List.getElem?_eq_getElem (show 1 < l.length by omega)
    have k0 := hlz _ (List.mem_of_getElem? e0)
    have k1 := hlz _ (List.mem_of_getElem? e1)
    rw [hl] at hv hcp
    refine ⟨g, cp, l[0].toNat, l[1].toNat, hv, hcp, hg, ?_, ?_⟩
    · rw [Int.toNat_of_nonneg k0.1]; exact hcl 0 _ e0
    · rw [Int.toNat_of_nonneg k1.1]; exact hcl 1 _ e1

/-- Where a sector of a disk lies. -/
theorem DOwn.secAt {B T : Nat} {w : World} {s1 s2 : Option Addr} {c1 c2 n1 n2 : Nat} {d : Dk} (h : DOwn B T w (.agg #[.slice s1 n1 c1, .slice s2 n2 c2]) d) {k : Nat} (hk : k < d.sec.length) : ∃ g : Nat, s1 = some ⟨g, 0, none⟩ ∧ n1 = d.sec.length ∧ ∀ X, Below w.heap.size w X → X.cell? ⟨g, k, none⟩ = some (.string d.sec[k]) := by
  obtain ⟨va, vb, hv, h1, h2, h3⟩ := h
  simp only [Value.agg.injEq, Array.mk.injEq, List.cons.injEq, and_true] at hv
  obtain ⟨rfl, rfl⟩ := hv
  rcases h1.1.own.2 with ⟨e, h0⟩ | ⟨g, cap, cur, e, _⟩
  · have : d.sec.length = 0 := h0
    omega
  · simp only [Value.slice.injEq] at e
    obtain ⟨rfl, rfl, rfl⟩ := e
    refine ⟨g, rfl, rfl, fun X hX => ?_⟩
    have h4 := (h1.1.later hX).cell rfl k _ (List.getElem?_eq_getElem hk) 0 _ rfl
    rw [show strE.sz = 1 from rfl, Nat.mul_one, Nat.add_zero] at h4
    exact h4

set_option maxRecDepth 100000 in
set_option maxHeartbeats 4000000 in
theorem walk_FnTorn (a : Option Addr) (len cap : Nat) (w : World) (hcode : CodeIn w a len) :
    Calls Try.prog 5 #[.slice a len cap] w fun e w' => e = .returned (.bool true) ∧ Below w.heap.size w w' := by
  by_cases hbig : len ≤ 1048576
  · have hb0 : decide ((1048576 : Int) < (len : Int)) = false := decide_eq_false (by omega)
    have HCO : Hid (∀ w', Below w.heap.size w w' → CodeIn w' a len) := fun w' hb => hcode.later hb
    go_enter Try.func5, Try.ntmps5
    go_wp2_with fail
    refine (big_any a len cap _).mono ?_
    rintro e w0 ⟨rfl, rfl⟩
    rw [hb0]
    go_wp2_with fail
    refine (drawDisk_any a len cap _ hcode hbig).mono ?_
    rintro e w1 ⟨d0, hok0, v1, rfl, o1, b1⟩
    obtain ⟨hsm0, hts0, htu0⟩ := Dk.ok_small hok0
    have hc0 : d0.cache.length ≤ 60 := hok0.2.2.1
    go_wp2_with fail
    refine (implFlushDisk_any d0 _ _ _ _ o1 hsm0 (by omega) hts0 htu0).mono ?_
    rintro e w2 ⟨v2, rfl, o2, k2⟩
    have b2 := b1.trans (k2.mono b1.size)
    obtain ⟨hok, hsl, hcn⟩ := flD_ok hok0
    clear o1 hts0 htu0 hsm0 hc0 k2 b1 hok0 hsl
    generalize flD d0 = d at o2 hok hcn
    obtain ⟨hsm, hts, htu⟩ := Dk.ok_small hok
    have hcl : d.cache.length < 1073741824 := by rw [hcn]; decide
    have HCN := Lib.hid hcn
    clear hcn
    obtain ⟨s1, s2, c1, c2, rfl⟩ := o2.form
    have kA : Below w2.heap.size w2 (w2.alloc (.cells #[.slice s1 d.sec.length c1, .slice s2 d.cache.length c2] 27)) := belAlloc _ _
    have y3 := Box.new w2 #[.slice s1 d.sec.length c1, .slice s2 d.cache.length c2] 27
    have o3 := o2.later kA
    have b3 := b2.trans (kA.mono b2.size)
    go_upto_region 4 with fail
    generalize w2.alloc (.cells #[.slice s1 d.sec.length c1, .slice s2 d.cache.length c2] 27) = w3 at y3 o3 b3 ⊢
    clear o2 kA
    go_wp2_with fail
    refine (drawPlaces_any a len cap _ (HCO.out _ b3) hbig).mono ?_
    rintro e w4 ⟨l, vz, hl, hlz, rfl, hib⟩
    have k4 := hib.bel
    have b4 := b3.trans (k4.mono b3.size)
    obtain ⟨gp, cp, z0, z1, rfl, hcp, hgp, hp0, hp1⟩ := places2 hl hlz hib
    have y4 := y3.later k4
    have o4 := o3.later k4
    have m0 := y4.cell 0 (.slice s1 d.sec.length c1) rfl
    have m1 := y4.cell 1 (.slice s2 d.cache.length c2) rfl
    have hl1 := hok.1
    have hl100 := hok.2.1
    obtain ⟨k, hk0⟩ : ∃ k : Nat, (z0 : Int) % (d.sec.length : Int) = (k : Int) := Int.eq_ofNat_of_zero_le (Int.emod_nonneg _ (by omega))
    have hk : k < d.sec.length := by have := Int.emod_lt_of_pos (z0 : Int) (show (0 : Int) < (d.sec.length : Int) by omega); omega
    obtain ⟨n, hn0⟩ : ∃ n : Nat, (z1 : Int) % 33 = (n : Int) := Int.eq_ofNat_of_zero_le (by omega)
    have hn : n ≤ 32 := by omega
    have hdn : ¬ ((d.sec.length : Int) = 0) := by omega
    have HK := Lib.hid hk0
    have HN := Lib.hid hn0
    clear hk0 hn0 y3 o3 b3 hib hlz hl
    go_upto_region 5 with fail
    go_quiet (fail)
    go_upto_region 8 with fail
    rw [HK.out, HN.out]
    have ht : (({ data := #[116, 104, 105, 114, 116, 121, 45, 116, 119, 111, 32, 98, 121, 116, 101, 115, 44, 32, 110, 111, 32, 109, 111, 114, 101, 32, 111, 114, 32, 108, 101, 115, 115] } : ByteArray).extract 0 32).size = 32 := by rfl
    generalize (({ data := #[116, 104, 105, 114, 116, 121, 45, 116, 119, 111, 32, 98, 121, 116, 101, 115, 44, 32, 110, 111, 32, 109, 111, 114, 101, 32, 111, 114, 32, 108, 101, 115, 115] } : ByteArray).extract 0 32) = t at ht ⊢
    have k5 : Below w4.heap.size w4 (w4.drewN nq) := ⟨rfl, rfl, rfl, Nat.le_refl _, fun _ _ => rfl⟩
    have y5 := y4.later k5
    have o5 := o4.later k5
    have b5 := b4.trans (k5.mono b4.size)
    clear m0 m1 hp0 hp1 y4 o4 k4 b4
    generalize w4.drewN nq = w5 at y5 o5 b5 k5 ⊢
    clear k5
    obtain ⟨hwr, htorn⟩ := torn_one hok HCN.out hk ht hn
    obtain ⟨hokW, hlW⟩ := wrD_ok hok (k : Int) t
    have hdec := decide_eq_true hwr
    obtain ⟨hokC, hlC, hcC⟩ := crD_ok hokW [1] (n : Int)
    have HTO := Lib.hid htorn
    have HDE := Lib.hid hdec
    clear htorn hdec hwr
    have m0 := y5.cell 0 (.slice s1 d.sec.length c1) rfl
    have m1 := y5.cell 1 (.slice s2 d.cache.length c2) rfl
    go_wp2_with fail
    refine (implWriteSector_any d _ (k : Int) t _ _ _ o5 hsm hts htu (by omega) hcl).mono ?_
    rintro e w6 ⟨v6, rfl, o6, k6⟩
    rw [HDE.out]
    have HWC : Hid (∀ x, crD (wrD d (k : Int) t) [1] (n : Int) = x → x.sec = d.sec.set k (t.extract 0 n ++ d.sec[k].extract n 32) ∧ x.ok) := fun x hx => by rw [← hx]; exact ⟨HTO.out, hokC⟩
    clear hlC hcC hokC HTO
    generalize wrD d (k : Int) t = dw at o6 hokW hlW HWC
    obtain ⟨hsmW, htsW, htuW⟩ := Dk.ok_small hokW
    have hcW : dw.cache.length ≤ 60 := hokW.2.2.1
    obtain ⟨p1, p2, q1, q2, rfl⟩ := o6.form
    have y6 := y5.later k6
    have o6d := o5.later k6
    have b6 := b5.trans (k6.mono b5.size)
    have kA : Below w6.heap.size w6 (w6.alloc (.cells #[.slice p1 dw.sec.length q1, .slice p2 dw.cache.length q2] 27)) := belAlloc _ _
    have y7w := Box.new w6 #[.slice p1 dw.sec.length q1, .slice p2 dw.cache.length q2] 27
    have o7w := o6.later kA
    have y7 := y6.later kA
    have o7d := o6d.later kA
    have b7 := b6.trans (kA.mono b6.size)
    clear m0 m1 y5 o5 b5 k6 o6 y6 o6d b6 hlW
    go_upto_region 9 with fail
    generalize w6.alloc (.cells #[.slice p1 dw.sec.length q1, .slice p2 dw.cache.length q2] 27) = w7 at y7w o7w y7 o7d b7 ⊢
    clear kA
    have m0 := y7w.cell 0 (.slice p1 dw.sec.length q1) rfl
    have m1 := y7w.cell 1 (.slice p2 dw.cache.length q2) rfl
    have kB : Below w7.heap.size w7 (w7.alloc (.cells #[.int .i64 1] 3)) := belAlloc _ _
    have hr : Rows' intE (w7.alloc (.cells #[.int .i64 1] 3)) (.slice (some ⟨w7.heap.size, 0, none⟩) 1 1) [1] := (RBuf.lit1 intE w7 1).rows
    go_wp2_with fail
    refine (implCrashDisk_any dw _ _ _ _ (o7w.later kB) hsmW (by omega) htsW htuW _ [1] hr (by decide) (n : Int)).mono ?_
    rintro e w8 ⟨v8, rfl, o8, k8⟩
    obtain ⟨D, hD⟩ : ∃ D, crD dw [1] (n : Int) = D := ⟨_, rfl⟩
    obtain ⟨hDs, hDok⟩ := HWC.out D hD
    rw [hD] at o8
    have HDS := Lib.hid hDs
    clear hD HWC m0 m1 hDs
    obtain ⟨r1, r2, e1, e2, rfl⟩ := o8.form
    have kC := kB.trans (k8.mono kB.size)
    have kD : Below w8.heap.size w8 (w8.alloc (.cells #[.slice r1 D.sec.length e1, .slice r2 D.cache.length e2] 27)) := belAlloc _ _
    have kE := kC.trans (kD.mono kC.size)
    have y9c := Box.new w8 #[.slice r1 D.sec.length e1, .slice r2 D.cache.length e2] 27
    have o9c := o8.later kD
    have y9 := y7.later kE
    have o9d := o7d.later kE
    have b9 := b7.trans (kE.mono b7.size)
    clear y7w o7w y7 o7d b7 hr k8 o8 kB kC
    go_upto_region 10 with fail
    generalize w8.alloc (.cells #[.slice r1 D.sec.length e1, .slice r2 D.cache.length e2] 27) = w9 at y9c o9c y9 o9d b9 ⊢
    clear kD kE
    have hkD : k < D.sec.length := by rw [HDS.out, List.length_set]; exact hk
    have hDk : D.sec[k] = t.extract 0 n ++ d.sec[k].extract n 32 := by
      have : D.sec[k]? = some (t.extract 0 n ++ d.sec[k].extract n 32) := by rw [HDS.out, List.getElem?_set_self hk]
      rw [List.getElem?_eq_getElem hkD] at this
      exact Option.some.inj this
    obtain ⟨gd, rfl, _, hcd⟩ := o9d.secAt hk
    obtain ⟨gc, rfl, _, hcc⟩ := o9c.secAt hkD
    rw [hDk] at hcc
    have hds := hok.2.2.2.1 _ (List.getElem_mem hk)
    have hDl : Hid (D.sec.length = d.sec.length) := by show _ = _; rw [HDS.out, List.length_set]
    clear HDS hDk
    generalize d.sec[k] = ds at hcd hcc hds
    have z1 : (t.extract 0 n).size = n := by rw [ByteArray.size_extract]; omega
    have z2 : (ds.extract n 32).size = 32 - n := by rw [ByteArray.size_extract]; omega
    have sl1 : ∀ wx, (Instr.slice 9 (.string t) none (some (.int .i64 (n : Int))) none).run Try.prog wx = .ok (.string (t.extract 0 n)) wx := fun wx => by
      have := run_slice_string_to_if (P := Try.prog) (w := wx) 9 t .i64 (n : Int) Try.underlying9
      rw [this, if_pos ⟨by omega, by omega⟩]; rfl
    have sl2 : ∀ wx, (Instr.slice 9 (.string ds) (some (.int .i64 (n : Int))) none none).run Try.prog wx = .ok (.string (ds.extract n 32)) wx := fun wx => by
      have := run_slice_string_from_if (P := Try.prog) (w := wx) 9 ds .i64 (n : Int) Try.underlying9
      rw [this, if_pos ⟨by omega, by omega⟩, hds]; rfl
    generalize t.extract 0 n = A1 at *
    generalize ds.extract n 32 = A2 at *
    have ad := fun (wx : World) => run_string_add_sum (P := Try.prog) (w := wx) A1 A2 (by omega)
    generalize A1 ++ A2 = S at *
    have hSS : (S.toList == S.toList) = true := by simp
    have x0 := y9.cell 0 (.slice (some ⟨gd, 0, none⟩) d.sec.length c1) rfl
    have x1 := y9c.cell 0 (.slice (some ⟨gc, 0, none⟩) D.sec.length e1) rfl
    have x2 := y9c.cell 1 (.slice r2 D.cache.length e2) rfl
    have x3 := hcd _ (Below.refl _ _)
    have x4 := hcc _ (Below.refl _ _)
    have HS : Hid (∀ X, Below w9.drew.heap.size w9.drew X → X.cell? ⟨w2.heap.size, 0, none⟩ = some (.slice (some ⟨gd, 0, none⟩) d.sec.length c1) ∧ X.cell? ⟨w8.heap.size, 0, none⟩ = some (.slice (some ⟨gc, 0, none⟩) D.sec.length e1) ∧ X.cell? ⟨w8.heap.size, 1, none⟩ = some (.slice r2 D.cache.length e2) ∧ X.cell? ⟨gd, k, none⟩ = some (.string ds) ∧ X.cell? ⟨gc, k, none⟩ = some (.string S)) := fun X hX => by
      have hX2 : Below w9.heap.size w9 X := ((Below.refl _ _).drew).trans hX
      exact ⟨(y9.later hX2).cell 0 _ rfl, (y9c.later hX2).cell 0 _ rfl, (y9c.later hX2).cell 1 _ rfl, hcd _ hX2, hcc _ hX2⟩
    have ORD := Lib.hid (o9c.later ((Below.refl w9.heap.size w9).drew)).rd
    have hsmD : D.small := (Dk.ok_small hDok).1
    have HDok := Lib.hid (decide_eq_true hDok)
    have B9 := Lib.hid b9
    have hi0 : (0 : Int) ≤ (k : Int) := by omega
    have hi1 : (k : Int) < (d.sec.length : Int) := by omega
    have hi2 : (k : Int) < (D.sec.length : Int) := by omega
    clear y9 y9c o9c o9d hcd hcc hsm hts htu hsmW htsW htuW hDok hokW hok b9 hDl HK HN HCN HDE hdn hl1 hl100 hcW hcl
    go_region_held3 (fun X => X.cell? ⟨w2.heap.size, 0, none⟩ = some (.slice (some ⟨gd, 0, none⟩) d.sec.length c1) ∧ X.cell? ⟨w8.heap.size, 0, none⟩ = some (.slice (some ⟨gc, 0, none⟩) D.sec.length e1) ∧ X.cell? ⟨w8.heap.size, 1, none⟩ = some (.slice r2 D.cache.length e2) ∧ X.cell? ⟨gd, k, none⟩ = some (.string ds) ∧ X.cell? ⟨gc, k, none⟩ = some (.string S))
      (first | exact ⟨x0, x1, x2, x3, x4⟩ | exact HS.out _ kX)
      (first | (go_at_call 13; refine (implDiskOk_any D _ _ ORD.out hsmD).mono ?_; rintro e wX ⟨rfl, kX⟩; rw [HDok.out]))
    all_goals
      go_wp2
      go_ret
      exact ⟨rfl, B9.out.drew.trans (kX.mono B9.out.size)⟩
  · have hb0 : decide ((1048576 : Int) < (len : Int)) = true := decide_eq_true (by omega)
    go_enter Try.func5, Try.ntmps5
    go_wp2_with fail
    refine (big_any a len cap _).mono ?_
    rintro e w0 ⟨rfl, rfl⟩
    rw [hb0]
    go_wp2
    go_ret
    exact ⟨rfl, Below.refl _ _⟩

theorem FnTorn_own : ownKnob Try.prog.godebug = none := by kernel_rfl

set_option maxRecDepth 100000 in
theorem FnTorn_lifted (os : Os) (started : os.Started) (H : Type) (enc : TypeId × Value → H) :
    ReturnsInHanded {} Try.checked os 5 .any (Rows.fnTornSpec.pre6 enc Try.prog Try.f5 Rows.fnTornRow.domain false) (Rows.fnTornSpec.post enc Try.prog Try.f5 false true false false) := by
  refine returnsInHanded_of_change (C := Try.checked) FnTorn_own started (by kernel_rfl) Try.func5
    (ChangeSpec.witness6 (enc := enc) (C := Try.checked) false ⟨#[], #[.slice none 0 0], []⟩ 8 (by kernel_rfl) (by kernel_rfl) (by kernel_rfl) (by kernel_rfl)) ?_
  intro W base args ds gs before hval0 hW hcnd _
  have hval : ∀ (j : Nat) t v, Try.f5.params[j]? = some t → args[j]? = some v → Value.okWide Try.prog W .any base t v := hval0
  have hW' := hW
  obtain ⟨p, q, hA0, hV, rfl, hfz, hnd⟩ := hW
  have hA : DataW.TrodAll enc Try.prog W 0 (fun _ => true) true Try.f5.params.toList args.toList ds p := hA0
  rw [Try.params5] at hA hval
  obtain ⟨v0, vs0, d0, ds0, p0, q0, hargs, rfl, rfl, h0, r0⟩ := trodAll_cons hA
  obtain ⟨rfl, rfl, rfl⟩ := trodAll_nil r0
  obtain rfl : args = #[v0] := by cases args; simp_all
  obtain ⟨rfl, rfl⟩ := trodVars_none hV
  obtain ⟨a0, len0, cap0, rfl⟩ := okWide_slice Try.underlying22 (hval 0 22 v0 rfl rfl)
  have k0 := h0
  have lt0 : ∀ x ∈ p0, x.block < W.heap.size := by obtain ⟨m, hm⟩ := k0; exact DataW.trod_lt m _ _ _ hm
  have w0 : CodeIn W a0 len0 := by
    obtain ⟨fuel, hf⟩ := h0
    rcases open_ints Try.underlying22 Try.underlying5 (by kernel_rfl) hf with ⟨hcs, _⟩ | ⟨x, l, c, zs, hcs, _, hl, hm, hz, _, hcell, hwz⟩
    · simp [Value.cells] at hcs
      obtain ⟨rfl, rfl, rfl⟩ := hcs
      intro i hi; omega
    · simp [Value.cells] at hcs
      obtain ⟨rfl, rfl, rfl⟩ := hcs
      exact codeIn_of_row hl (by simpa using hz) hcell hwz
  clear hA0 hval0
  simp only [List.append_nil] at hW'
  refine (walk_FnTorn a0 len0 cap0 w0 (w := W)).mono fun e W' ⟨he, bel⟩ => ?_
  subst he
  exact ⟨_, rfl, _, _, _, [], _, [], hW', trodAll_mk1 (shut_bool Try.underlying4 _), (trodAll_cons_mk (Below.trod (show laidOutB Try.prog = true by kernel_rfl) (by kernel_rfl) (of_decide_eq_true (by kernel_rfl)) k0 bel lt0) trodAll_mk0), rfl, bel.frame _, fun h => by cases h⟩

/-- The given statement. -/
theorem fnTorn_holds : Rows.FnTornSaid :=
  OpenClaim.holds_of_wide 5 Try.f5 rfl rfl rfl rfl rfl rfl rfl ⟨rfl, rfl, rfl, rfl, rfl⟩ rfl rfl rfl rfl rfl (by kernel_rfl) Try.func5 (by kernel_rfl)
    (of_decide_eq_true (by kernel_rfl)) (by unfold Func.isWrapper; first | (rw [if_pos (by decide +kernel)]; kernel_rfl) | (rw [if_neg (by decide +kernel)]; exact ⟨rfl, rfl⟩))
    (fun os started H enc _ => FnTorn_lifted os started H enc)
#print axioms fnTorn_holds

end Go.Proofs.Ytmmgnpjhlmiafaa
