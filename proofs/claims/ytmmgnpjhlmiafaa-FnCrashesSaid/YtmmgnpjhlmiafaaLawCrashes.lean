/- For every code: a crash of which nothing was chosen leaves a drawn disk's sectors as they were; of which all was chosen, whole, it is as if it was flushed; and any drawn crash is the model's. No condition. -/
import Derived.Test.YtmmgnpjhlmiafaaPlainSect
import Derived.Test.YtmmgnpjhlmiafaaSectKit
import Derived.Test.YtmmgnpjhlmiafaaImplFlush
import Derived.Test.YtmmgnpjhlmiafaaImplCrash
import Derived.Test.YtmmgnpjhlmiafaaSpecCrash
import Derived.Test.YtmmgnpjhlmiafaaSameDk
import Derived.Test.YtmmgnpjhlmiafaaDrawCr
import Derived.ProofKit
import Derived.OpenShut
import Derived.ShutString
import Derived.ChangeOld
import Derived.Below
namespace Go.Proofs.Ytmmgnpjhlmiafaa
open Go.ChangeShapes Go.WideShapes Go.ChangeAt Go.RowKit
open Go.ChangeMaps (open_string shut_string)
set_option linter.unusedVariables false

/-- A list of numbers in memory of its own. -/
structure RwI (w : World) (v : Value) (l : List Int) (X : World) : Prop where
  row : LOwn intE w.heap.size X.heap.size X v l
  bel : Below w.heap.size w X
theorem RwI.new (w : World) : RwI w (.slice (some ⟨w.heap.size, 0, none⟩) 0 0) [] (w.alloc (.cells #[] 3)) := ⟨(RBuf.fresh intE w).lown, belAlloc _ _⟩
theorem RwI.rowA {w X : World} {v : Value} {l : List Int} (h : RwI w v l X) (o : Obj) : RBuf intE w.heap.size (X.alloc o) (X.alloc o) v l := (h.row.1.alloc o).here
theorem RwI.push {w X Y : World} {v v' : Value} {l l' : List Int} {o : Obj} (h : RwI w v l X) (hr : RBuf intE w.heap.size Y Y v' l') (hg : (X.alloc o).grownBy Y v.ownBlock) : RwI w v' l' Y := by
  have hB := h.row.1.le
  have h1 : Below X.heap.size X (X.alloc o) := belAlloc _ _
  exact ⟨hr.lown, (h.bel.trans (h1.mono hB)).grown hg (by simp; omega) (fun k hk => (h.row.1.own.lt k hk).1)⟩

theorem DOwn.strs {B T : Nat} {w : World} {s1 s2 : Option Addr} {c1 c2 n1 n2 : Nat} {d : Dk} (h : DOwn B T w (.agg #[.slice s1 n1 c1, .slice s2 n2 c2]) d) : Strs w (.slice s1 n1 c1) d.sec := by
  obtain ⟨va, vb, hv, h1, _⟩ := h.rd
  simp only [Value.agg.injEq, Array.mk.injEq, List.cons.injEq, and_true] at hv
  obtain ⟨rfl, rfl⟩ := hv
  exact h1

set_option maxRecDepth 100000 in
set_option maxHeartbeats 4000000 in
theorem walk_FnCrashes (a : Option Addr) (len cap : Nat) (w : World) (hcode : CodeIn w a len) :
    Calls Try.prog 4 #[.slice a len cap] w fun e w' => e = .returned (.bool true) ∧ Below w.heap.size w w' := by
  by_cases hbig : len ≤ 1048576
  · have hb0 : decide ((1048576 : Int) < (len : Int)) = false := decide_eq_false (by omega)
    have HCO : Hid (∀ w', Below w.heap.size w w' → CodeIn w' a len) := fun w' hb => hcode.later hb
    go_enter Try.func4, Try.ntmps4
    go_wp2_with fail
    refine (big_any a len cap _).mono ?_
    rintro e w0 ⟨rfl, rfl⟩
    rw [hb0]
    go_wp2_with fail
    refine (drawDisk_any a len cap _ hcode hbig).mono ?_
    rintro e w2 ⟨d, hok, h24, v2, rfl, o2, b2⟩
    obtain ⟨hsm, hts, htu⟩ := Dk.ok_small hok
    obtain ⟨s1, s2, c1, c2, rfl⟩ := o2.form
    have kA : Below w2.heap.size w2 (w2.alloc (.cells #[.slice s1 d.sec.length c1, .slice s2 d.cache.length c2] 27)) := belAlloc _ _
    have y3 := Box.new w2 #[.slice s1 d.sec.length c1, .slice s2 d.cache.length c2] 27
    have o3 := o2.later kA
    have b3 := b2.trans (kA.mono b2.size)
    go_upto_region 4 with fail
    generalize w2.alloc (.cells #[.slice s1 d.sec.length c1, .slice s2 d.cache.length c2] 27) = w3 at y3 o3 b3 ⊢
    clear o2 kA hcode
    have R0 := RwI.new w3
    go_wp2
    go_loopw [4, 5] (fun v iv wr => ∃ (i : Nat) (s : Option Addr) (c : Nat), i ≤ d.cache.length ∧ v = .slice s i c ∧ iv = .int .i64 (i : Int) ∧ RwI w3 v (List.replicate i 1) wr) (fun _ iv _ => d.cache.length - (intOf iv).toNat)
    case atStart => exact ⟨0, _, _, by omega, rfl, rfl, R0⟩
    case round =>
      clear R0
      obtain ⟨i, s, c, hi, rfl, rfl, R⟩ := hrel
      have y4 := y3.later R.bel
      have m0 := y4.cell 0 (.slice s1 d.sec.length c1) rfl
      have m1 := y4.cell 1 (.slice s2 d.cache.length c2) rfl
      by_cases hlt : i < d.cache.length
      · have hii : (i : Int) < (d.cache.length : Int) := by omega
        have HB := Lib.hid (R.rowA (.cells #[.int .i64 1] 3))
        have HX := Lib.hid (RBuf.lit1 intE wr 1)
        have HR := Lib.hid R
        clear R y4 hsm hts htu
        go_wp2_with (at_builtin; refine wpList_append_rows rfl _ _ intE rfl w3.heap.size _ (List.replicate i 1) rfl HB.out wr.heap.size _ [1] rfl HX.out (by simp [intE]; omega) ?_; intro v6 w6 hr6 hg6 at6; obtain ⟨a6, q6, hv6⟩ := hr6.form; simp only [List.length_append, List.length_replicate, List.length_cons, List.length_nil, Nat.zero_add] at hv6; subst hv6; have R6 := Lib.hid (HR.out.push hr6 hg6); clear hr6 hg6 at6)
        go_roundw
        case rel => exact ⟨i + 1, a6, q6, by omega, rfl, by go_num, by rw [List.replicate_succ']; exact R6.out⟩
        case measure => simp [intOf]; omega
      · obtain rfl : i = d.cache.length := by omega
        have o4 := o3.later R.bel
        have b4 := b3.trans (R.bel.mono b3.size)
        have r4 := R.row
        clear y3 o3 b3 R
        have kB : Below wr.heap.size wr (wr.alloc (.cells #[] 3)) := belAlloc _ _
        have hr0 : Rows' intE (wr.alloc (.cells #[] 3)) (.slice (some ⟨wr.heap.size, 0, none⟩) 0 0) [] := .inl ⟨rfl, _, _, rfl⟩
        go_wp2_with fail
        refine (implCrashDisk_any d _ _ _ _ (o4.later kB) hsm (by omega) hts htu _ [] hr0 (by decide) 5).mono ?_
        rintro e w5 ⟨v5, rfl, o5, k5⟩
        obtain ⟨_, _, hcN⟩ := crD_ok hok [] 5
        have hsN := crash_none hok 5
        generalize crD d [] 5 = N at o5 hcN hsN
        have HSN := Lib.hid hsN
        have HCN := Lib.hid hcN
        clear hcN hsN m0 m1 hr0
        obtain ⟨n1, n2, p1, p2, rfl⟩ := o5.form
        have kC := kB.trans (k5.mono kB.size)
        have kD : Below w5.heap.size w5 (w5.alloc (.cells #[.slice n1 N.sec.length p1, .slice n2 N.cache.length p2] 27)) := belAlloc _ _
        have kE := kC.trans (kD.mono kC.size)
        have yN6 := Box.new w5 #[.slice n1 N.sec.length p1, .slice n2 N.cache.length p2] 27
        have oN6 := o5.later kD
        have y6 := y4.later kE
        have o6 := o4.later kE
        have b6 := b4.trans (kE.mono b4.size)
        have r6 := r4.later kE
        clear o5 k5 kB kC y4 o4 b4 r4
        go_upto_region 10 with fail
        generalize w5.alloc (.cells #[.slice n1 N.sec.length p1, .slice n2 N.cache.length p2] 27) = w6 at yN6 oN6 y6 o6 b6 r6 ⊢
        clear kD kE
        have m0 := y6.cell 0 (.slice s1 d.sec.length c1) rfl
        have m1 := y6.cell 1 (.slice s2 d.cache.length c2) rfl
        go_wp2_with fail
        refine (implCrashDisk_any d _ _ _ _ o6 hsm (by omega) hts htu _ (List.replicate d.cache.length 1) r6.rows (by rw [List.length_replicate]; omega) 32).mono ?_
        rintro e w7 ⟨v7, rfl, o7, k7⟩
        obtain ⟨hokF, _, _⟩ := flD_ok hok
        rw [crash_all hok] at o7
        obtain ⟨F, hF⟩ : ∃ F, flD d = F := ⟨_, rfl⟩
        rw [hF] at o7 hokF
        have HF := Lib.hid hF
        clear hF m0 m1 r6
        obtain ⟨t1, t2, e1, e2, rfl⟩ := o7.form
        have kD : Below w7.heap.size w7 (w7.alloc (.cells #[.slice t1 F.sec.length e1, .slice t2 F.cache.length e2] 27)) := belAlloc _ _
        have kE := k7.trans (kD.mono k7.size)
        have yF8 := Box.new w7 #[.slice t1 F.sec.length e1, .slice t2 F.cache.length e2] 27
        have oF8 := o7.later kD
        have y8 := y6.later kE
        have o8 := o6.later kE
        have b8 := b6.trans (kE.mono b6.size)
        have yN8 := yN6.later kE
        have oN8 := oN6.later kE
        clear o7 k7 y6 o6 b6 yN6 oN6
        go_upto_region 11 with fail
        generalize w7.alloc (.cells #[.slice t1 F.sec.length e1, .slice t2 F.cache.length e2] 27) = w8 at yF8 oF8 y8 o8 b8 yN8 oN8 ⊢
        clear kD kE
        go_wp2_with fail
        refine (drawCrash_any a len cap _ (HCO.out _ b8) hbig).mono ?_
        rintro e w9 ⟨x, v9, vk, l, z, hdr, hl, rfl, o9, hk9, k9⟩
        obtain ⟨x1, x2, j1, j2, rfl⟩ := o9.form
        have kD : Below w9.heap.size w9 (w9.alloc (.cells #[.slice x1 x.sec.length j1, .slice x2 x.cache.length j2] 27)) := belAlloc _ _
        have kE := k9.trans (kD.mono k9.size)
        have yXa := Box.new w9 #[.slice x1 x.sec.length j1, .slice x2 x.cache.length j2] 27
        have oXa := o9.later kD
        have hka := hk9.later kD
        have ya := y8.later kE
        have oa := o8.later kE
        have ba := b8.trans (kE.mono b8.size)
        have yNa := yN8.later kE
        have oNa := oN8.later kE
        have yFa := yF8.later kE
        have oFa := oF8.later kE
        clear o9 k9 y8 o8 b8 yN8 oN8 yF8 oF8 hk9
        go_upto_region 12 with fail
        generalize w9.alloc (.cells #[.slice x1 x.sec.length j1, .slice x2 x.cache.length j2] 27) = wA at yXa oXa hka ya oa ba yNa oNa yFa oFa ⊢
        clear kD kE
        obtain ⟨hsmX, htsX, htuX⟩ := Dk.drawn_small hdr
        obtain ⟨hsmF, _, _⟩ := Dk.ok_small hokF
        have hxc : x.cache.length ≤ 100 := hdr.2.1
        have hsmC : (crD x l z).small := (crD_small hsmX (by unfold Dk.count; have := hdr.1; omega)).1
        have HCS := Lib.hid (crS_eq x l z)
        obtain ⟨C, hC⟩ : ∃ C, crD x l z = C := ⟨_, rfl⟩
        rw [hC] at hsmC
        have HCC := Lib.hid hC
        have HDok := Lib.hid (decide_eq_true hokF)
        have hN0 : ((N.cache.length : Int) == 0) = true := by rw [HCN.out]; rfl
        have hdl : d.sec.length ≤ 1099511627776 := by have := hok.2.1; omega
        have hdc : d.cache.length ≤ 1048576 := by omega
        have hxc2 : x.cache.length ≤ 1048576 := by omega
        have hl2 : l.length ≤ 1048576 := by omega
        have HY : Hid (∀ Y, Below wA.heap.size wA Y → (Y.cell? ⟨w2.heap.size, 0, none⟩ = some (.slice s1 d.sec.length c1) ∧ Y.cell? ⟨w2.heap.size, 1, none⟩ = some (.slice s2 d.cache.length c2) ∧ Y.cell? ⟨w5.heap.size, 0, none⟩ = some (.slice n1 N.sec.length p1) ∧ Y.cell? ⟨w5.heap.size, 1, none⟩ = some (.slice n2 N.cache.length p2) ∧ Y.cell? ⟨w7.heap.size, 0, none⟩ = some (.slice t1 F.sec.length e1) ∧ Y.cell? ⟨w7.heap.size, 1, none⟩ = some (.slice t2 F.cache.length e2) ∧ Y.cell? ⟨w9.heap.size, 0, none⟩ = some (.slice x1 x.sec.length j1) ∧ Y.cell? ⟨w9.heap.size, 1, none⟩ = some (.slice x2 x.cache.length j2)) ∧
            (Strs Y (.slice n1 N.sec.length p1) d.sec ∧ Strs Y (.slice s1 d.sec.length c1) d.sec) ∧ DOwn w.heap.size w2.heap.size Y (.agg #[.slice s1 d.sec.length c1, .slice s2 d.cache.length c2]) d ∧ DRd Y (.agg #[.slice t1 F.sec.length e1, .slice t2 F.cache.length e2]) F ∧ DOwn w8.heap.size w9.heap.size Y (.agg #[.slice x1 x.sec.length j1, .slice x2 x.cache.length j2]) x ∧ Rows' intE Y vk l ∧ Below w.heap.size w Y) := fun Y hY =>
          ⟨⟨(ya.later hY).cell 0 _ rfl, (ya.later hY).cell 1 _ rfl, (yNa.later hY).cell 0 _ rfl, (yNa.later hY).cell 1 _ rfl, (yFa.later hY).cell 0 _ rfl, (yFa.later hY).cell 1 _ rfl, (yXa.later hY).cell 0 _ rfl, (yXa.later hY).cell 1 _ rfl⟩,
            ⟨by rw [← HSN.out]; exact (oNa.later hY).strs, (oa.later hY).strs⟩, oa.later hY, (oFa.later hY).rd, oXa.later hY, hka.later hY, ba.trans (hY.mono ba.size)⟩
        have kk : Below wA.heap.size wA wA.drew := (Below.refl _ _).drew
        have hS0 := (HY.out _ kk).1
        obtain ⟨m0, m1, m2, m3, m4, m5, m6, m7⟩ := hS0
        clear ya yNa yFa yXa oa oNa oFa oXa hka ba hdr hokF hok HCN hl hxc h24 HCO HSN
        go_region_held3 (fun Y => Y.cell? ⟨w2.heap.size, 0, none⟩ = some (.slice s1 d.sec.length c1) ∧ Y.cell? ⟨w2.heap.size, 1, none⟩ = some (.slice s2 d.cache.length c2) ∧ Y.cell? ⟨w5.heap.size, 0, none⟩ = some (.slice n1 N.sec.length p1) ∧ Y.cell? ⟨w5.heap.size, 1, none⟩ = some (.slice n2 N.cache.length p2) ∧ Y.cell? ⟨w7.heap.size, 0, none⟩ = some (.slice t1 F.sec.length e1) ∧ Y.cell? ⟨w7.heap.size, 1, none⟩ = some (.slice t2 F.cache.length e2) ∧ Y.cell? ⟨w9.heap.size, 0, none⟩ = some (.slice x1 x.sec.length j1) ∧ Y.cell? ⟨w9.heap.size, 1, none⟩ = some (.slice x2 x.cache.length j2))
          (first | exact (HY.out _ kk).1)
          (first
            | (go_at_call 16; obtain ⟨_, ⟨u1, u2⟩, _⟩ := HY.out _ kk; refine (sameTexts_same d.sec _ _ _ u1 u2 hdl).mono ?_; rintro e wX ⟨rfl, kX⟩; have kk := kk.trans (kX.mono kk.size); clear u1 u2 kX)
            | (go_at_call 10; obtain ⟨_, _, u1, _⟩ := HY.out _ kk; refine (implFlushDisk_any d _ _ _ _ u1 hsm hdc hts htu).mono ?_; rintro e wX ⟨vF, rfl, oF, kX⟩; rw [HF.out] at oF; have kk := kk.trans (kX.mono kk.size); have rF := Lib.hid oF.rd; clear u1 kX oF)
            | (go_at_call 14; obtain ⟨_, _, _, _, u1, u2, _⟩ := HY.out _ kk; refine (implCrashDisk_any x _ _ _ _ u1 hsmX hxc2 htsX htuX _ l u2 hl2 z).mono ?_; rintro e wX ⟨vC, rfl, oC, kX⟩; rw [HCC.out] at oC; have kk := kk.trans (kX.mono kk.size); have rC := Lib.hid oC.rd; clear u1 u2 kX oC)
            | (go_at_call 18; obtain ⟨_, _, _, _, u1, u2, _⟩ := HY.out _ kk; refine (specCrashDisk_any x _ _ _ _ u1 hsmX htsX htuX _ l u2 hl2 z).mono ?_; rintro e wX ⟨vS, rfl, oS, kX⟩; rw [HCS.out, HCC.out] at oS; have rC := Lib.hid (rC.out.later kX); have kk := kk.trans (kX.mono kk.size); have rS := Lib.hid oS.rd; clear u1 u2 kX oS)
            | (go_at_call 13; obtain ⟨_, _, _, u1, _⟩ := HY.out _ kk; refine (implDiskOk_any F _ _ u1 hsmF).mono ?_; rintro e wX ⟨rfl, kX⟩; rw [HDok.out]; have kk := kk.trans (kX.mono kk.size); clear u1 kX)
            | (go_at_call 17; have r1 := rC.out; have r2 := rS.out; refine (sameDisk_same C _ _ _ r1 r2 hsmC).mono ?_; rintro e wX ⟨rfl, kX⟩; have kk := kk.trans (kX.mono kk.size); clear r1 r2 kX)
            | (go_at_call 17; have r2 := rF.out; obtain ⟨_, _, _, u1, _⟩ := HY.out _ kk; refine (sameDisk_same F _ _ _ u1 r2 hsmF).mono ?_; rintro e wX ⟨rfl, kX⟩; have kk := kk.trans (kX.mono kk.size); clear r2 u1 kX))
        all_goals
          have bE := (HY.out _ kk).2.2.2.2.2.2
          go_wp2
          go_ret
          exact ⟨rfl, bE⟩
  · have hb0 : decide ((1048576 : Int) < (len : Int)) = true := decide_eq_true (by omega)
    go_enter Try.func4, Try.ntmps4
    go_wp2_with fail
    refine (big_any a len cap _).mono ?_
    rintro e w0 ⟨rfl, rfl⟩
    rw [hb0]
    go_wp2
    go_ret
    exact ⟨rfl, Below.refl _ _⟩

theorem FnCrashes_own : ownKnob Try.prog.godebug = none := by kernel_rfl

set_option maxRecDepth 100000 in
theorem FnCrashes_lifted (os : Os) (started : os.Started) (H : Type) (enc : TypeId × Value → H) :
    ReturnsInHanded {} Try.checked os 4 .any (Rows.fnCrashesSpec.pre6 enc Try.prog Try.f4 Rows.fnCrashesRow.domain false) (Rows.fnCrashesSpec.post enc Try.prog Try.f4 false true false false) := by
  refine returnsInHanded_of_change (C := Try.checked) FnCrashes_own started (by kernel_rfl) Try.func4
    (ChangeSpec.witness6 (enc := enc) (C := Try.checked) false ⟨#[], #[.slice none 0 0], []⟩ 8 (by kernel_rfl) (by kernel_rfl) (by kernel_rfl) (by kernel_rfl)) ?_
  intro W base args ds gs before hval0 hW hcnd _
  have hval : ∀ (j : Nat) t v, Try.f4.params[j]? = some t → args[j]? = some v → Value.okWide Try.prog W .any base t v := hval0
  have hW' := hW
  obtain ⟨p, q, hA0, hV, rfl, hfz, hnd⟩ := hW
  have hA : DataW.TrodAll enc Try.prog W 0 (fun _ => true) true Try.f4.params.toList args.toList ds p := hA0
  rw [Try.params4] at hA hval
  obtain ⟨v0, vs0, d0, ds0, p0, q0, hargs, rfl, rfl, h0, r0⟩ := trodAll_cons hA
  obtain ⟨rfl, rfl, rfl⟩ := trodAll_nil r0
  obtain rfl : args = #[v0] := by cases args; simp_all
  obtain ⟨rfl, rfl⟩ := trodVars_none hV
  obtain ⟨a0, len0, cap0, rfl⟩ := okWide_slice Try.underlying22 (hval 0 22 v0 rfl rfl)
  have k0 := h0
  have lt0 : ∀ x ∈ p0, x.block < W.heap.size := by obtain ⟨m, hm⟩ := k0; exact DataW.trod_lt m _ _ _ hm
  have w0 : CodeIn W a0 len0 := by
    obtain ⟨fuel, hf⟩ := h0
    rcases open_ints Try.underlying22 Try.underlying5 (by kernel_rfl) hf with ⟨hcs, _⟩ | ⟨x, l, c, zs, hcs, _, hl, hm, hz, _, hcell, hwz⟩
    · simp [Value.cells] at hcs
      obtain ⟨rfl, rfl, rfl⟩ := hcs
      intro i hi; omega
    · simp [Value.cells] at hcs
      obtain ⟨rfl, rfl, rfl⟩ := hcs
      exact codeIn_of_row hl (by simpa using hz) hcell hwz
  clear hA0 hval0
  simp only [List.append_nil] at hW'
  refine (walk_FnCrashes a0 len0 cap0 w0 (w := W)).mono fun e W' ⟨he, bel⟩ => ?_
  subst he
  exact ⟨_, rfl, _, _, _, [], _, [], hW', trodAll_mk1 (shut_bool Try.underlying4 _), (trodAll_cons_mk (Below.trod (show laidOutB Try.prog = true by kernel_rfl) (by kernel_rfl) (of_decide_eq_true (by kernel_rfl)) k0 bel lt0) trodAll_mk0), rfl, bel.frame _, fun h => by cases h⟩

/-- The given statement. -/
theorem fnCrashes_holds : Rows.FnCrashesSaid :=
  OpenClaim.holds_of_wide 4 Try.f4 rfl rfl rfl rfl rfl rfl rfl ⟨rfl, rfl, rfl, rfl, rfl⟩ rfl rfl rfl rfl rfl (by kernel_rfl) Try.func4 (by kernel_rfl)
    (of_decide_eq_true (by kernel_rfl)) (by unfold Func.isWrapper; first | (rw [if_pos (by decide +kernel)]; kernel_rfl) | (rw [if_neg (by decide +kernel)]; exact ⟨rfl, rfl⟩))
    (fun os started H enc _ => FnCrashes_lifted os started H enc)
#print axioms fnCrashes_holds

end Go.Proofs.Ytmmgnpjhlmiafaa
