/- For every code: what is written on a drawn disk is read at once, and behind a flush, and then it stands in its sector; all other sectors are read as they were; nothing that was there is changed. No condition. -/
import Derived.Test.YtmmgnpjhlmiafaaPlainSect
import Derived.Test.YtmmgnpjhlmiafaaSectKit
import Derived.Test.YtmmgnpjhlmiafaaImplFlush
import Derived.Test.YtmmgnpjhlmiafaaReadSec
import Derived.ProofKit
import Derived.OpenShut
import Derived.ShutString
import Derived.ChangeOld
import Derived.Below
namespace Go.Proofs.Ytmmgnpjhlmiafaa
open Go.ChangeShapes Go.WideShapes Go.ChangeAt Go.RowKit
open Go.ChangeMaps (open_string shut_string)
set_option linter.unusedVariables false

set_option maxRecDepth 100000 in
set_option maxHeartbeats 12000000 in
theorem walk_FnSectors (a : Option Addr) (len cap : Nat) (w : World) (hcode : CodeIn w a len) :
    Calls Try.prog 3 #[.slice a len cap] w fun e w' => e = .returned (.bool true) ∧ Below w.heap.size w w' := by
  by_cases hbig : len ≤ 1048576
  · have hb0 : decide ((1048576 : Int) < (len : Int)) = false := decide_eq_false (by omega)
    have HCO : Hid (∀ w', Below w.heap.size w w' → CodeIn w' a len) := fun w' hb => hcode.later hb
    go_enter Try.func3, Try.ntmps3
    go_wp2_with fail
    refine (big_any a len cap _).mono ?_
    rintro e w0 ⟨rfl, rfl⟩
    rw [hb0]
    go_wp2_with fail
    refine (drawDisk_any a len cap _ hcode hbig).mono ?_
    rintro e w2 ⟨d, hok, h24, v2, rfl, o2, b2⟩
    obtain ⟨hsm, hts, htu⟩ := Dk.ok_small hok
    have hcl : d.cache.length < 1073741824 := by omega
    obtain ⟨s1, s2, c1, c2, rfl⟩ := o2.form
    have kA : Below w2.heap.size w2 (w2.alloc (.cells #[.slice s1 d.sec.length c1, .slice s2 d.cache.length c2] 27)) := belAlloc _ _
    have y3 := Box.new w2 #[.slice s1 d.sec.length c1, .slice s2 d.cache.length c2] 27
    have o3 := o2.later kA
    have b3 := b2.trans (kA.mono b2.size)
    go_upto_region 4 with fail
    generalize w2.alloc (.cells #[.slice s1 d.sec.length c1, .slice s2 d.cache.length c2] 27) = w3 at y3 o3 b3 ⊢
    clear o2 kA
    go_wp2_with fail
    refine (drawPlaces_any a len cap _ (HCO.out _ b3) hbig).mono ?_
    rintro e w4 ⟨l, vz, hl, hlz, rfl, hib⟩
    have k4 := hib.bel
    have b4 := b3.trans (k4.mono b3.size)
    obtain ⟨gp, cp, z0, z1, rfl, hcp, hgp, hp0, hp1⟩ := places2 hl hlz hib
    have y4 := y3.later k4
    have o4 := o3.later k4
    have m0 := y4.cell 0 (.slice s1 d.sec.length c1) rfl
    have hl1 := hok.1
    have hl100 := hok.2.1
    obtain ⟨k, hk0⟩ : ∃ k : Nat, (z0 : Int) % (d.sec.length : Int) = (k : Int) := Int.eq_ofNat_of_zero_le (Int.emod_nonneg _ (by omega))
    have hk : k < d.sec.length := by have := Int.emod_lt_of_pos (z0 : Int) (show (0 : Int) < (d.sec.length : Int) by omega); omega
    have hdn : ¬ ((d.sec.length : Int) = 0) := by omega
    have HK := Lib.hid hk0
    clear hk0 y3 o3 b3 hib hlz hl
    go_upto_region 5 with fail
    go_quiet (fail)
    go_upto_region 6 with fail
    rw [HK.out]
    have k5 : Below w4.heap.size w4 (w4.drewN nq) := ⟨rfl, rfl, rfl, Nat.le_refl _, fun _ _ => rfl⟩
    have y5 := y4.later k5
    have o5 := o4.later k5
    have b5 := b4.trans (k5.mono b4.size)
    have hp5 : (w4.drewN nq).cell? ⟨gp, 1, none⟩ = some (.int .i64 (z1 : Int)) := hp1
    clear m0 hp0 hp1 y4 o4 k4 b4
    generalize w4.drewN nq = w5 at y5 o5 b5 k5 hp5 ⊢
    clear k5
    obtain ⟨gd, rfl, _, hcd⟩ := o5.secAt hk
    have m0 := y5.cell 0 (.slice (some ⟨gd, 0, none⟩) d.sec.length c1) rfl
    have md := hcd _ (Below.refl _ _)
    have hds := hok.2.2.2.1 _ (List.getElem_mem hk)
    have HCD := Lib.hid hcd
    obtain ⟨ds, hdse⟩ : ∃ ds, d.sec[k] = ds := ⟨_, rfl⟩
    rw [hdse] at md hds
    have HDS := Lib.hid hdse
    clear hcd hdse
    have hi0 : (0 : Int) ≤ (k : Int) := by omega
    have hi1 : (k : Int) < (d.sec.length : Int) := by omega
    have h7 : (7 : Int) ≤ (ds.size : Int) := by omega
    have z7 : (ds.extract 0 7).size = 7 := by rw [ByteArray.size_extract]; omega
    have ad7 := fun (wx : World) => run_string_add_sum (P := Try.prog) (w := wx) (ds.extract 0 7) ⟨#[115, 101, 118, 101, 110, 98, 121, 116, 101, 115, 32, 111, 102, 32, 97, 110, 111, 116, 104, 101, 114, 32, 116, 101, 120, 116]⟩ (by rw [z7]; decide)
    go_upto_region 7 with fail
    have hX : (ds.extract 0 7 ++ ⟨#[115, 101, 118, 101, 110, 98, 121, 116, 101, 115, 32, 111, 102, 32, 97, 110, 111, 116, 104, 101, 114, 32, 116, 101, 120, 116]⟩ : ByteArray).size = 33 := by rw [ByteArray.size_append, z7]; rfl
    clear ad7 z7 h7
    generalize (ds.extract 0 7 ++ ⟨#[115, 101, 118, 101, 110, 98, 121, 116, 101, 115, 32, 111, 102, 32, 97, 110, 111, 116, 104, 101, 114, 32, 116, 101, 120, 116]⟩ : ByteArray) = X at hX ⊢
    have sl : ∀ wx, (Instr.slice 9 (.string X) none (some (.int .i64 31)) none).run Try.prog wx = .ok (.string (X.extract 0 31)) wx := fun wx => by
      have := run_slice_string_to_if (P := Try.prog) (w := wx) 9 X .i64 31 Try.underlying9
      rw [this, if_pos ⟨by decide, by omega⟩]; rfl
    have zX : (X.extract 0 31).size = 31 := by rw [ByteArray.size_extract]; omega
    obtain ⟨b, hb⟩ : ∃ b : UInt8, UInt8.ofNat z1 = b := ⟨_, rfl⟩
    have hbn : (b.toNat : Int) = (z1 : Int) % 256 := by rw [← hb, UInt8.toNat_ofNat']; omega
    have hw : IntKind.u8.wrap (z1 : Int) = (b.toNat : Int) := by rw [IntKind.wrap_u8', hbn]
    clear hb hbn
    have hcv : (convert 22 9 (.slice (some ⟨w5.heap.size, 0, none⟩) 1 1)).run Try.prog (w5.alloc (.cells #[.int .u8 (b.toNat : Int)] 5)).drew = .ok (.string ⟨#[b]⟩) (w5.alloc (.cells #[.int .u8 (b.toNat : Int)] 5)).drew := by
      refine run_convert_bytes_back (P := Try.prog) _ 22 9 5 ⟨w5.heap.size, 0, none⟩ 1 [b] Try.underlying22 Try.underlying5 Try.underlying9 fun j hj => ?_
      have : j = 0 := by simpa using hj
      subst this
      simp [Addr.add, go_sem]
    have ad := fun (wx : World) => run_string_add_sum (P := Try.prog) (w := wx) (X.extract 0 31) ⟨#[b]⟩ (by rw [zX]; show 31 + 1 ≤ _; omega)
    have ht : (X.extract 0 31 ++ ⟨#[b]⟩ : ByteArray).size = 32 := by rw [ByteArray.size_append, zX]; rfl
    have kT : Below w5.heap.size w5 (w5.alloc (.cells #[.int .u8 (b.toNat : Int)] 5)).drew := ((Below.refl _ _).alloc (Nat.le_refl _) _).drew
    clear m0 md
    go_region
    have y6 := y5.later kT
    have o6 := o5.later kT
    have b6 := b5.trans (kT.mono b5.size)
    clear hcv ad sl zX hX hp5 hw hds hi0 hi1
    generalize (X.extract 0 31 ++ ⟨#[b]⟩ : ByteArray) = t at ht ⊢
    generalize (w5.alloc (.cells #[.int .u8 (b.toNat : Int)] 5)).drew = w6 at y6 o6 b6 kT ⊢
    obtain ⟨hwr, hse, hr1, hr2, hfk⟩ := wrote_told hok (by omega) hk ht
    obtain ⟨hokW, hlW⟩ := wrD_ok hok (k : Int) t
    obtain ⟨hokF, hlF, hcF⟩ := flD_ok hokW
    have HDE := Lib.hid (decide_eq_true hwr)
    have m0 := y6.cell 0 (.slice (some ⟨gd, 0, none⟩) d.sec.length c1) rfl
    have m1 := y6.cell 1 (.slice s2 d.cache.length c2) rfl
    have hmw := wrD_more d (k : Int) t
    go_wp2_with fail
    refine (implWriteSector_any d _ (k : Int) t _ _ _ o6 hsm hts htu (by omega) hcl).mono ?_
    rintro e w7 ⟨v7, rfl, o7, k7⟩
    rw [HDE.out]
    have HF : Hid (∀ x, flD (wrD d (k : Int) t) = x → (∀ i, i < d.sec.length → rdS x i = if i = k then t else rdS d i) ∧ x.sec[k]? = some t ∧ x.ok ∧ x.sec.length = d.sec.length ∧ x.cache = []) := fun x hx => by rw [← hx]; exact ⟨hr2, hfk, hokF, hlF.trans hlW, hcF⟩
    clear hr2 hfk hokF hlF hcF hwr HDE m0 m1
    generalize wrD d (k : Int) t = dw at o7 hokW hlW hse hr1 HF hmw
    have HSE := Lib.hid hse
    have HR1 := Lib.hid hr1
    have HLW := Lib.hid hlW
    clear hse hr1 hlW
    obtain ⟨hsmW, htsW, htuW⟩ := Dk.ok_small hokW
    obtain ⟨p1, p2, q1, q2, rfl⟩ := o7.form
    have y7 := y6.later k7
    have o7d := o6.later k7
    have b7 := b6.trans (k7.mono b6.size)
    have kB : Below w7.heap.size w7 (w7.alloc (.cells #[.slice p1 dw.sec.length q1, .slice p2 dw.cache.length q2] 27)) := belAlloc _ _
    have y8w := Box.new w7 #[.slice p1 dw.sec.length q1, .slice p2 dw.cache.length q2] 27
    have o8w := o7.later kB
    have y8 := y7.later kB
    have o8d := o7d.later kB
    have b8 := b7.trans (kB.mono b7.size)
    clear y6 o6 b6 k7 o7 y7 o7d b7
    go_upto_region 9 with fail
    generalize w7.alloc (.cells #[.slice p1 dw.sec.length q1, .slice p2 dw.cache.length q2] 27) = w8 at y8w o8w y8 o8d b8 ⊢
    clear kB
    have m0 := y8w.cell 0 (.slice p1 dw.sec.length q1) rfl
    have m1 := y8w.cell 1 (.slice p2 dw.cache.length q2) rfl
    go_wp2_with fail
    refine (implFlushDisk_any dw _ _ _ _ o8w hsmW (by omega) htsW htuW).mono ?_
    rintro e w9 ⟨v9, rfl, o9, k9⟩
    obtain ⟨F, hF⟩ : ∃ F, flD dw = F := ⟨_, rfl⟩
    obtain ⟨hr2, hfk, hokF, hlF, hcF⟩ := HF.out F hF
    rw [hF] at o9
    have HR2 := Lib.hid hr2
    have HFK := Lib.hid hfk
    have HLF := Lib.hid hlF
    have HCF := Lib.hid hcF
    clear hF HF m0 m1 hr2 hfk hlF hcF
    obtain ⟨r1, r2, e1, e2, rfl⟩ := o9.form
    have kC : Below w9.heap.size w9 (w9.alloc (.cells #[.slice r1 F.sec.length e1, .slice r2 F.cache.length e2] 27)) := belAlloc _ _
    have kD := k9.trans (kC.mono k9.size)
    have yAf := Box.new w9 #[.slice r1 F.sec.length e1, .slice r2 F.cache.length e2] 27
    have oAf := o9.later kC
    have yA := y8.later kD
    have oAd := o8d.later kD
    have yAw := y8w.later kD
    have oAw := o8w.later kD
    have bA := b8.trans (kD.mono b8.size)
    clear y8w o8w y8 o8d b8 k9 o9
    go_upto_region 10 with fail
    generalize w9.alloc (.cells #[.slice r1 F.sec.length e1, .slice r2 F.cache.length e2] 27) = wA at yAf oAf yA oAd yAw oAw bA ⊢
    clear kC kD
    obtain ⟨hsmF, htsF, htuF⟩ := Dk.ok_small hokF
    have hkW : k < dw.sec.length := by have := HLW.out; omega
    have hkF : k < F.sec.length := by have := HLF.out; omega
    obtain ⟨gd', hgd', _, hcd⟩ := oAd.secAt hk
    obtain rfl : gd = gd' := by simpa using hgd'
    obtain ⟨gw, rfl, _, hcw⟩ := oAw.secAt hkW
    obtain ⟨gf, rfl, _, hcf⟩ := oAf.secAt hkF
    have HFt : Hid (F.sec[k] = t) := by
      have := HFK.out
      rw [List.getElem?_eq_getElem hkF] at this
      exact Option.some.inj this
    have HWd : Hid (dw.sec[k] = ds) := by
      show dw.sec[k] = ds
      rw [← HDS.out]
      have h1 : dw.sec[k]? = some dw.sec[k] := List.getElem?_eq_getElem hkW
      have h2 : d.sec[k]? = some d.sec[k] := List.getElem?_eq_getElem hk
      have h3 : dw.sec[k]? = d.sec[k]? := congrArg (fun l : List ByteArray => l[k]?) HSE.out
      exact Option.some.inj (h1.symm.trans (h3.trans h2))
    have HY : Hid (∀ Y, Below wA.heap.size wA Y → (Y.cell? ⟨w2.heap.size, 0, none⟩ = some (.slice (some ⟨gd, 0, none⟩) d.sec.length c1) ∧ Y.cell? ⟨w2.heap.size, 1, none⟩ = some (.slice s2 d.cache.length c2) ∧ Y.cell? ⟨w7.heap.size, 0, none⟩ = some (.slice (some ⟨gw, 0, none⟩) dw.sec.length q1) ∧ Y.cell? ⟨w7.heap.size, 1, none⟩ = some (.slice p2 dw.cache.length q2) ∧ Y.cell? ⟨w9.heap.size, 0, none⟩ = some (.slice (some ⟨gf, 0, none⟩) F.sec.length e1) ∧ Y.cell? ⟨w9.heap.size, 1, none⟩ = some (.slice r2 F.cache.length e2)) ∧ (Y.cell? ⟨gd, k, none⟩ = some (.string ds) ∧ Y.cell? ⟨gw, k, none⟩ = some (.string ds) ∧ Y.cell? ⟨gf, k, none⟩ = some (.string t)) ∧ (DRd Y (.agg #[.slice (some ⟨gd, 0, none⟩) d.sec.length c1, .slice s2 d.cache.length c2]) d ∧ DRd Y (.agg #[.slice (some ⟨gw, 0, none⟩) dw.sec.length q1, .slice p2 dw.cache.length q2]) dw ∧ DRd Y (.agg #[.slice (some ⟨gf, 0, none⟩) F.sec.length e1, .slice r2 F.cache.length e2]) F) ∧ Below w.heap.size w Y) := fun Y hY =>
      ⟨⟨(yA.later hY).cell 0 _ rfl, (yA.later hY).cell 1 _ rfl, (yAw.later hY).cell 0 _ rfl, (yAw.later hY).cell 1 _ rfl, (yAf.later hY).cell 0 _ rfl, (yAf.later hY).cell 1 _ rfl⟩, ⟨by rw [← HDS.out]; exact hcd _ hY, by rw [← HWd.out]; exact hcw _ hY, by rw [← HFt.out]; exact hcf _ hY⟩, ⟨(oAd.later hY).rd, (oAw.later hY).rd, (oAf.later hY).rd⟩, bA.trans (hY.mono bA.size)⟩
    clear yA yAw yAf oAd oAw oAf hcd hcw hcf hgd' HFK HSE HCD kT
    go_wp2
    go_loopw [10] (fun iv wr => ∃ i : Nat, i ≤ d.sec.length ∧ iv = .int .i64 (i : Int) ∧ Below wA.heap.size wA wr) (fun iv _ => d.sec.length - (intOf iv).toNat)
    case atStart => exact ⟨0, by omega, rfl, Below.refl _ _⟩
    case round =>
      obtain ⟨i, hi, rfl, kr⟩ := hrel
      obtain ⟨⟨m0, m1, _, _, _, _⟩, _, ⟨rd1, _, _⟩, br⟩ := HY.out _ kr
      by_cases hlt : i < d.sec.length
      · have hii : (i : Int) < (d.sec.length : Int) := by omega
        have HA := Lib.hid (rdT_in hlt)
        have HB := Lib.hid (rdT_in (d := dw) (i := i) (by have := HLW.out; omega))
        have HCc := Lib.hid (rdT_in (d := F) (i := i) (by have := HLF.out; omega))
        have h1 := HR1.out i hlt
        have h2 := HR2.out i hlt
        generalize rdS dw i = sb at HB h1
        generalize rdS F i = sc at HCc h2
        have H1 := Lib.hid h1
        have H2 := Lib.hid h2
        clear h1 h2
        go_wp2_with fail
        refine (specReadSector_any d _ (i : Int) _ rd1 hsm).mono ?_
        rintro e u1 ⟨rfl, n1⟩
        rw [HA.out]
        have kr1 := kr.trans (n1.mono kr.size)
        clear m0 m1 rd1 n1
        obtain ⟨⟨_, _, m0, m1, _, _⟩, _, ⟨_, rd2, _⟩, _⟩ := HY.out _ kr1
        go_wp2_with fail
        refine (implReadSector_any dw _ (i : Int) _ rd2 hsmW htsW htuW).mono ?_
        rintro e u2 ⟨rfl, n2⟩
        rw [HB.out]
        have kr2 := kr1.trans (n2.mono kr1.size)
        clear m0 m1 rd2 n2
        obtain ⟨⟨_, _, _, _, m0, m1⟩, _, ⟨_, _, rd3⟩, _⟩ := HY.out _ kr2
        go_wp2_with fail
        refine (implReadSector_any F _ (i : Int) _ rd3 hsmF htsF htuF).mono ?_
        rintro e u3 ⟨rfl, n3⟩
        rw [HCc.out]
        have kr3 := kr2.trans (n3.mono kr2.size)
        clear m0 m1 rd3 n3
        obtain ⟨⟨_, _, _, _, m0, _⟩, ⟨_, _, mf⟩, _, _⟩ := HY.out _ kr3
        have h1 := H1.out
        have h2 := H2.out
        clear H1 H2
        by_cases hik : i = k
        · rw [if_pos hik] at h1 h2
          subst hik h1 h2
          have hne : ((i : Int) != (i : Int)) = false := by simp
          have hee : ((i : Int) == (i : Int)) = true := by simp
          have hi0 : (0 : Int) ≤ (i : Int) := by omega
          have hi2 : (i : Int) < (F.sec.length : Int) := by have := HLF.out; omega
          go_wp2
          go_roundw
          case rel => exact ⟨i + 1, by omega, by go_num, kr3⟩
          case measure => simp [intOf]; omega
        · rw [if_neg hik] at h1 h2
          subst h1 h2
          have hne : ((i : Int) != (k : Int)) = true := by simp; omega
          have hee : ((i : Int) == (k : Int)) = false := beq_eq_false_iff_ne.2 (by omega)
          go_wp2
          go_roundw
          case rel => exact ⟨i + 1, by omega, by go_num, kr3⟩
          case measure => simp [intOf]; omega
      · have hii : ¬ ((i : Int) < (d.sec.length : Int)) := by omega
        go_upto_region 18 with fail
        have hcF0 : F.cache.length = 0 := by rw [HCF.out]; rfl
        have hF0 : ((F.cache.length : Int) == 0) = true := by rw [hcF0]; rfl
        have hSS : (ds.toList == ds.toList) = true := by simp
        have HDok := Lib.hid (decide_eq_true hokF)
        have kr0 : Below wA.heap.size wA wr.drew := kr.drew
        have hi0 : (0 : Int) ≤ (k : Int) := by omega
        have hi1 : (k : Int) < (d.sec.length : Int) := by omega
        have hi2 : (k : Int) < (dw.sec.length : Int) := by omega
        clear m0 m1 rd1 br
        obtain ⟨⟨x0, _, x2, _, x4, x5⟩, ⟨x6, x7, _⟩, ⟨_, _, ord⟩, br⟩ := HY.out _ kr0
        have ORD := Lib.hid ord
        have BR := Lib.hid br
        have KR0 := Lib.hid kr0
        have HS : Hid (∀ X, Below wr.drew.heap.size wr.drew X → X.cell? ⟨w2.heap.size, 0, none⟩ = some (.slice (some ⟨gd, 0, none⟩) d.sec.length c1) ∧ X.cell? ⟨w7.heap.size, 0, none⟩ = some (.slice (some ⟨gw, 0, none⟩) dw.sec.length q1) ∧ X.cell? ⟨w9.heap.size, 0, none⟩ = some (.slice (some ⟨gf, 0, none⟩) F.sec.length e1) ∧ X.cell? ⟨w9.heap.size, 1, none⟩ = some (.slice r2 F.cache.length e2) ∧ X.cell? ⟨gd, k, none⟩ = some (.string ds) ∧ X.cell? ⟨gw, k, none⟩ = some (.string ds)) := fun X hX => by
          obtain ⟨⟨a0, _, a2, _, a4, a5⟩, ⟨a6, a7, _⟩, _, _⟩ := HY.out X (KR0.out.trans (hX.mono KR0.out.size))
          exact ⟨a0, a2, a4, a5, a6, a7⟩
        clear ord br kr0 kr hok hokW hokF hsm hts htu hsmW htsW htuW htsF htuF HR1 HR2 HLW HLF HCF HDS HFt HWd HCO hcode hcF0 hmw HK
        go_region_held3 (fun X => X.cell? ⟨w2.heap.size, 0, none⟩ = some (.slice (some ⟨gd, 0, none⟩) d.sec.length c1) ∧ X.cell? ⟨w7.heap.size, 0, none⟩ = some (.slice (some ⟨gw, 0, none⟩) dw.sec.length q1) ∧ X.cell? ⟨w9.heap.size, 0, none⟩ = some (.slice (some ⟨gf, 0, none⟩) F.sec.length e1) ∧ X.cell? ⟨w9.heap.size, 1, none⟩ = some (.slice r2 F.cache.length e2) ∧ X.cell? ⟨gd, k, none⟩ = some (.string ds) ∧ X.cell? ⟨gw, k, none⟩ = some (.string ds))
          (first | exact ⟨x0, x2, x4, x5, x6, x7⟩ | exact HS.out _ kX)
          (first | (go_at_call 13; refine (implDiskOk_any F _ _ ORD.out hsmF).mono ?_; rintro e wX ⟨rfl, kX⟩; rw [HDok.out]))
        all_goals
          go_wp2
          go_ret
          exact ⟨rfl, BR.out.trans (kX.mono BR.out.size)⟩
  · have hb0 : decide ((1048576 : Int) < (len : Int)) = true := decide_eq_true (by omega)
    go_enter Try.func3, Try.ntmps3
    go_wp2_with fail
    refine (big_any a len cap _).mono ?_
    rintro e w0 ⟨rfl, rfl⟩
    rw [hb0]
    go_wp2
    go_ret
    exact ⟨rfl, Below.refl _ _⟩

theorem FnSectors_own : ownKnob Try.prog.godebug = none := by kernel_rfl

set_option maxRecDepth 100000 in
theorem FnSectors_lifted (os : Os) (started : os.Started) (H : Type) (enc : TypeId × Value → H) :
    ReturnsInHanded {} Try.checked os 3 .any (Rows.fnSectorsSpec.pre6 enc Try.prog Try.f3 Rows.fnSectorsRow.domain false) (Rows.fnSectorsSpec.post enc Try.prog Try.f3 false true false false) := by
  refine returnsInHanded_of_change (C := Try.checked) FnSectors_own started (by kernel_rfl) Try.func3
    (ChangeSpec.witness6 (enc := enc) (C := Try.checked) false ⟨#[], #[.slice none 0 0], []⟩ 8 (by kernel_rfl) (by kernel_rfl) (by kernel_rfl) (by kernel_rfl)) ?_
  intro W base args ds gs before hval0 hW hcnd _
  have hval : ∀ (j : Nat) t v, Try.f3.params[j]? = some t → args[j]? = some v → Value.okWide Try.prog W .any base t v := hval0
  have hW' := hW
  obtain ⟨p, q, hA0, hV, rfl, hfz, hnd⟩ := hW
  have hA : DataW.TrodAll enc Try.prog W 0 (fun _ => true) true Try.f3.params.toList args.toList ds p := hA0
  rw [Try.params3] at hA hval
  obtain ⟨v0, vs0, d0, ds0, p0, q0, hargs, rfl, rfl, h0, r0⟩ := trodAll_cons hA
  obtain ⟨rfl, rfl, rfl⟩ := trodAll_nil r0
  obtain rfl : args = #[v0] := by cases args; simp_all
  obtain ⟨rfl, rfl⟩ := trodVars_none hV
  obtain ⟨a0, len0, cap0, rfl⟩ := okWide_slice Try.underlying22 (hval 0 22 v0 rfl rfl)
  have k0 := h0
  have lt0 : ∀ x ∈ p0, x.block < W.heap.size := by obtain ⟨m, hm⟩ := k0; exact DataW.trod_lt m _ _ _ hm
  have w0 : CodeIn W a0 len0 := by
    obtain ⟨fuel, hf⟩ := h0
    rcases open_ints Try.underlying22 Try.underlying5 (by kernel_rfl) hf with ⟨hcs, _⟩ | ⟨x, l, c, zs, hcs, _, hl, hm, hz, _, hcell, hwz⟩
    · simp [Value.cells] at hcs
      obtain ⟨rfl, rfl, rfl⟩ := hcs
      intro i hi; omega
    · simp [Value.cells] at hcs
      obtain ⟨rfl, rfl, rfl⟩ := hcs
      exact codeIn_of_row hl (by simpa using hz) hcell hwz
  clear hA0 hval0
  simp only [List.append_nil] at hW'
  refine (walk_FnSectors a0 len0 cap0 w0 (w := W)).mono fun e W' ⟨he, bel⟩ => ?_
  subst he
  exact ⟨_, rfl, _, _, _, [], _, [], hW', trodAll_mk1 (shut_bool Try.underlying4 _), (trodAll_cons_mk (Below.trod (show laidOutB Try.prog = true by kernel_rfl) (by kernel_rfl) (of_decide_eq_true (by kernel_rfl)) k0 bel lt0) trodAll_mk0), rfl, bel.frame _, fun h => by cases h⟩

/-- The given statement. -/
theorem fnSectors_holds : Rows.FnSectorsSaid :=
  OpenClaim.holds_of_wide 3 Try.f3 rfl rfl rfl rfl rfl rfl rfl ⟨rfl, rfl, rfl, rfl, rfl⟩ rfl rfl rfl rfl rfl (by kernel_rfl) Try.func3 (by kernel_rfl)
    (of_decide_eq_true (by kernel_rfl)) (by unfold Func.isWrapper; first | (rw [if_pos (by decide +kernel)]; kernel_rfl) | (rw [if_neg (by decide +kernel)]; exact ⟨rfl, rfl⟩))
    (fun os started H enc _ => FnSectors_lifted os started H enc)
#print axioms fnSectors_holds

end Go.Proofs.Ytmmgnpjhlmiafaa
