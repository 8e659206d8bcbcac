/- Texts of our own, joined. -/
import Derived.Test.YtgcnebepklelpaaGreatDoorJh
import Derived.Deep.DeepCutAuto
/- WriteBytes of the model, of a right disk: what is made is wbL. -/
namespace Go.Proofs.YtgcnebepklelpaaGreatDoor
open Go.RowKit

theorem rdO_of {d : Dk} {a : Int} {t : ByteArray} (h : rdT d a = .tuple #[.string t, .bool true]) : rdO d a = some t := by
  unfold rdT at h
  unfold rdO
  split at h
  · rename_i hin
    rw [if_pos hin]
    simp only [Value.tuple.injEq, Array.mk.injEq, List.cons.injEq, Value.string.injEq, and_true] at h
    rw [h]
  · simp at h

set_option maxRecDepth 100000 in
set_option maxHeartbeats 4000000 in
theorem specWriteBytes_wb (d : Dk) (v : Value) (se A : Nat) (t : ByteArray) (B T : Nat) (w : World) (h : DOwn B T w v d) (hok : d.ok) (hse : se < d.sec.length) (hA : A ≤ 3200) (htz : t.size ≤ 1000000) :
    Calls Tryz.prog 42 #[v, .int .i64 (se : Int), .int .i64 (A : Int), .string t] w fun e w' => ∃ (d' : Dk) (f : Bool), d'.ok ∧ d'.sec.length = d.sec.length ∧ d'.cache.length ≤ d.cache.length + (t.size + 62) / 32 ∧ wbL d (se + A / 32) (A % 32) t.data.toList = (if f = true then some d' else none) ∧ (f = false → d' = d) ∧ DiskR d' f w e w' := by
  obtain ⟨aa, ab, ca, cb, rfl⟩ := h.form
  obtain ⟨hsm, hts, htu⟩ := Dk.ok_small hok
  obtain ⟨hx0, hx1, b0, hsz⟩ := two_boxes w #[.slice aa d.sec.length ca, .slice ab d.cache.length cb] #[.slice none 0 0, .slice none 0 0] 25 25
  have h' := h.later b0
  have hl100 := hok.2.1
  go_enter Tryz.func42, Tryz.ntmps42
  go_wp2_with fail
  generalize ((w.alloc (.cells #[.slice aa d.sec.length ca, .slice ab d.cache.length cb] 25)).alloc (.cells #[.slice none 0 0, .slice none 0 0] 25)) = W at hx0 hx1 b0 hsz h' ⊢
  refine (specCopy_any d _ B T _ h' hsm).mono ?_
  rintro e w2 ⟨v2, rfl, o2, k2⟩
  obtain ⟨a1, a2, q1, q2, rfl⟩ := o2.form
  have k3 : Below w2.heap.size w2 (w2.alloc (.cells #[.slice a1 d.sec.length q1, .slice a2 d.cache.length q2] 25)) := (Below.refl _ _).alloc (Nat.le_refl _) _
  have j3 := k2.trans (k3.mono k2.size)
  have hz2 := k2.size
  have I3 : WbI w (.slice aa d.sec.length ca) (.slice ab d.cache.length cb) w2.heap.size (.slice a1 d.sec.length q1) (.slice a2 d.cache.length q2) d d B T (w2.alloc (.cells #[.slice a1 d.sec.length q1, .slice a2 d.cache.length q2] 25)) :=
    ⟨b0.trans (j3.mono b0.size), hx0.later j3, hx1.later j3, Box.new w2 _ _, ((o2.later k3).base (by omega)).top, h'.later j3, by omega⟩
  go_upto_region 2 with fail
  generalize w2.alloc (.cells #[.slice a1 d.sec.length q1, .slice a2 d.cache.length q2] 25) = w3 at I3 ⊢
  clear hx0 hx1 b0 h' h k3 j3 o2
  have c0 := I3.inn.cell 0 (.slice aa d.sec.length ca) rfl
  have c1 := I3.inn.cell 1 (.slice ab d.cache.length cb) rfl
  have g1 : ((0 : Int) ≤ (A : Int)) ∧ (A : Int) ≤ 3200 := by omega
  go_wp2_with (first | (go_at_call 17; refine (in_yes _ _ _ _ (by omega) (by omega)).mono ?_; rintro e w5 ⟨rfl, rfl⟩))
  refine (specDiskOk_any d _ _ I3.was.rd hsm hts htu).mono ?_
  rintro e w4 ⟨rfl, k4⟩
  rw [decide_eq_true hok]
  have I4 := I3.later k4
  clear I3 k4 c0 c1 g1
  go_wp2
  go_loopw [11] (fun iv wr => ∃ (i : Nat) (d' : Dk) (va vb : Value), i ≤ t.size ∧ iv = .int .i64 (i : Int) ∧ d'.ok ∧ d'.sec.length = d.sec.length ∧ WbQ A i t.size d d' ∧ Hid (wbL d (se + A / 32) (A % 32) t.data.toList = wbL d' (se + (A + i) / 32) ((A + i) % 32) (t.data.toList.drop i)) ∧ WbI w (.slice aa d.sec.length ca) (.slice ab d.cache.length cb) w2.heap.size va vb d d' B T wr) (fun iv _ => t.size - (intOf iv).toNat)
  case atStart => exact ⟨0, d, _, _, by omega, rfl, hok, rfl, .inl ⟨rfl, rfl⟩, rfl, I4⟩
  case round =>
    clear I4
    obtain ⟨i, d', va, vb, hi, rfl, hok', hlen0, hq0, HWB, I⟩ := hrel
    have hlen := Lib.hid hlen0
    have HQ := Lib.hid hq0
    clear hlen0 hq0
    obtain ⟨a5, a6, c5, c6, hv5⟩ := I.dsk.form
    simp only [Value.agg.injEq, Array.mk.injEq, List.cons.injEq, and_true] at hv5
    obtain ⟨rfl, rfl⟩ := hv5
    obtain ⟨hsm', hts', htu'⟩ := Dk.ok_small hok'
    have m0 := I.out.cell 0 (.slice a5 d'.sec.length c5) rfl
    have m1 := I.out.cell 1 (.slice a6 d'.cache.length c6) rfl
    by_cases hlt : i < t.size
    · have hlt' : (i : Int) < (t.size : Int) := by omega
      obtain ⟨fr, hfr⟩ : ∃ fr : Nat, ((A : Int) + (i : Int)) % 32 = (fr : Int) := Int.eq_ofNat_of_zero_le (by omega)
      obtain ⟨kq, hkq⟩ : ∃ q : Nat, (se : Int) + ((A : Int) + (i : Int)) / 32 = (q : Int) := Int.eq_ofNat_of_zero_le (by omega)
      have hfr32 : fr < 32 := by omega
      have HFR := Lib.hid hfr
      have HKQ := Lib.hid hkq
      clear hfr hkq
      go_upto_region 11 with fail
      · obtain ⟨n, hnn, hn0, hn1, hn2, hnx⟩ : ∃ n : Nat, (t.size : Int) - (i : Int) = (n : Int) ∧ 0 < n ∧ fr + n ≤ 32 ∧ i + n ≤ t.size ∧ Hid (n = min (32 - fr) (t.size - i)) := ⟨t.size - i, by omega, by omega, by have := HFR.out; omega, by omega, by show _ = _; have := HFR.out; omega⟩
        have hend : Hid ((A + (i + n)) % 32 = 0 ∨ i + n = t.size) := .inr (by omega)
        rw [HKQ.out, HFR.out, hnn]
        clear hnn
        go_wp2_with fail
        refine (specReadSector_any d' _ (kq : Int) _ I.dsk.rd hsm').mono ?_
        rintro e w5 ⟨rfl, k5⟩
        have IK := I.later k5
        clear m0 m1 k5 I
        rcases rdT_ok hok' (kq : Int) with ⟨hbey, hr⟩ | ⟨ws, hw32, hin, hr⟩
        · rw [hr]
          clear hr
          have HNN : Hid (wbL d (se + A / 32) (A % 32) t.data.toList = none) := by
            show _ = _
            rw [HWB.out]
            exact wb_beyond hlt (fun hc => hbey ⟨by omega, by have := HKQ.out; omega⟩)
          clear hbey
          have c0 := IK.inn.cell 0 (.slice aa d.sec.length ca) rfl
          have c1 := IK.inn.cell 1 (.slice ab d.cache.length cb) rfl
          go_wp2_with fail
          refine (specCopy_any d _ B T _ IK.was hsm).mono ?_
          rintro e wX ⟨vX, rfl, oX, kX⟩
          obtain ⟨p1, p2, r1, r2, rfl⟩ := oX.form
          have IX := IK.later kX
          have x0 := IX.res.cell 0 (.slice none 0 0) rfl
          have x1 := IX.res.cell 1 (.slice none 0 0) rfl
          have f0 := IX.res.loose 0
          have f1 := IX.res.loose 1
          have rX := (IX.res.set 0 (.slice p1 d.sec.length r1)).set 1 (.slice p2 d.cache.length r2)
          have HR : Hid (DiskR d false w (.returned (.tuple #[.agg #[.slice p1 d.sec.length r1, .slice p2 d.cache.length r2], .bool false])) ((wX.setCell ⟨w.heap.size + 1, 0, none⟩ (.slice p1 d.sec.length r1)).setCell ⟨w.heap.size + 1, 1, none⟩ (.slice p2 d.cache.length r2))) := by
            refine ⟨_, rfl, ?_, (IX.bel.setCell (p := ⟨w.heap.size + 1, 0, none⟩) (by simp) _).setCell (p := ⟨w.heap.size + 1, 1, none⟩) (by simp) _⟩
            have := ((oX.base (IK.bel.size)).boxStore IX.res 0 (.slice p1 d.sec.length r1)).boxStore (IX.res.set 0 (.slice p1 d.sec.length r1)) 1 (.slice p2 d.cache.length r2)
            simpa using this
          have q0 := rX.cell 0 (.slice p1 d.sec.length r1) rfl
          have q1 := rX.cell 1 (.slice p2 d.cache.length r2) rfl
          clear IK IX rX oX kX c0 c1
          go_wp2
          refine bodyPost_ret (v := .tuple #[.agg #[.slice p1 d.sec.length r1, .slice p2 d.cache.length r2], .bool false]) (by simp [results, Tryz.results42, go_sem, q0, q1]) rfl ?_
          exact ⟨d, false, hok, rfl, by omega, HNN.out, fun _ => rfl, HR.out⟩
        · have HRO := Lib.hid (rdO_of hr)
          rw [hr]
          clear hr
          have hws2 : ((ws.size : Int) != 32) = false := by rw [hw32]; rfl
          have hlt5 : w2.heap.size < w5.heap.size := IK.out.lt
          have hw5le : w.heap.size ≤ w5.heap.size := IK.bel.size
          go_upto_region 14 with fail
          have b1 : (fr : Int) ≤ (ws.size : Int) := by omega
          have sl1 : ∀ wx, (Instr.slice 9 (.string ws) none (some (.int .i64 (fr : Int))) none).run Tryz.prog wx = .ok (.string (ws.extract 0 fr)) wx := fun wx => by
            have := run_slice_string_to_if (P := Tryz.prog) (w := wx) 9 ws .i64 (fr : Int) Tryz.underlying9
            rw [this]; simp; omega
          have sl2 : ∀ wx, (Instr.slice 9 (.string t) (some (.int .i64 (i : Int))) (some (.int .i64 ((i : Int) + (n : Int)))) none).run Tryz.prog wx = .ok (.string (t.extract i (i + n))) wx := fun wx => by
            have := run_slice_string (P := Tryz.prog) (w := wx) 9 t .i64 .i64 (i : Int) ((i : Int) + (n : Int)) Tryz.underlying9 (by omega) (by omega) (by omega)
            rw [this]
            congr 3
          have sl3 : ∀ wx, (Instr.slice 9 (.string ws) (some (.int .i64 ((fr : Int) + (n : Int)))) none none).run Tryz.prog wx = .ok (.string (ws.extract (fr + n) ws.size)) wx := fun wx => by
            have := run_slice_string_from_if (P := Tryz.prog) (w := wx) 9 ws .i64 ((fr : Int) + (n : Int)) Tryz.underlying9
            rw [this, if_pos ⟨by omega, by omega⟩]
            congr 3
          have z1 : (ws.extract 0 fr).size = fr := by rw [ByteArray.size_extract]; omega
          have z2 : (t.extract i (i + n)).size = n := by rw [ByteArray.size_extract]; omega
          have z3 : (ws.extract (fr + n) ws.size).size = 32 - (fr + n) := by rw [ByteArray.size_extract]; omega
          generalize hA1 : ws.extract 0 fr = A1 at sl1 z1
          generalize hA2 : t.extract i (i + n) = A2 at sl2 z2
          generalize hA3 : ws.extract (fr + n) ws.size = A3 at sl3 z3
          have ad1 := fun (wx : World) => run_string_add_sum (P := Tryz.prog) (w := wx) A1 A2 (by omega)
          have ad2 := fun (wx : World) => run_string_add_sum (P := Tryz.prog) (w := wx) (A1 ++ A2) A3 (by rw [ByteArray.size_append]; omega)
          have hw1 : IntKind.i64.wrap ((i : Int) + (n : Int)) = (i : Int) + (n : Int) := IntWalk.i64_in _ ⟨by omega, by omega⟩
          have hw2 : IntKind.i64.wrap ((fr : Int) + (n : Int)) = (fr : Int) + (n : Int) := IntWalk.i64_in _ ⟨by omega, by omega⟩
          have hsz : (A1 ++ A2 ++ A3).size = 32 := by simp only [ByteArray.size_append]; omega
          generalize hSq : A1 ++ A2 ++ A3 = S at ad2 hsz
          have HSq : Hid (S = ws.extract 0 fr ++ t.extract i (i + n) ++ ws.extract (fr + n) ws.size) := by show _ = _; rw [hA1, hA2, hA3, hSq]
          clear hA1 hA2 hA3 hSq
          obtain ⟨D, hD⟩ : ∃ D, wrD d' (kq : Int) S = D := ⟨_, rfl⟩
          obtain ⟨F, hF⟩ : ∃ F, decide (wrOk d' (kq : Int) S) = F := ⟨_, rfl⟩
          have hDok : (D.ok ∧ D.sec.length = d'.sec.length) ∧ D.cache.length ≤ d'.cache.length + 1 := by rw [← hD]; exact ⟨wrD_ok hok' _ _, wrD_more _ _ _⟩
          have HDF : Hid (wrD d' (kq : Int) S = D ∧ decide (wrOk d' (kq : Int) S) = F) := ⟨hD, hF⟩
          have HDok := Lib.hid hDok
          clear hD hF hDok
          go_cut [17, 18] from 80 to 101 (fun p f wx => ∃ (g : Nat) (e1 e2 : Option Addr) (e3 e4 : Nat), p = .pointer (some ⟨g, 0, none⟩) ∧ f = .bool F ∧ w5.heap.size ≤ g ∧ Box wx g #[.slice e1 D.sec.length e3, .slice e2 D.cache.length e4] 25 ∧ DOwn w5.heap.size wx.heap.size wx (.agg #[.slice e1 D.sec.length e3, .slice e2 D.cache.length e4]) D ∧ Below w5.heap.size w5 wx)
          case first =>
            have m0 := IK.out.cell 0 (.slice a5 d'.sec.length c5) rfl
            have m1 := IK.out.cell 1 (.slice a6 d'.cache.length c6) rfl
            have HS : Hid (∀ x : World, (x.cell? ⟨w2.heap.size, 0, none⟩ = some (.slice a5 d'.sec.length c5) ∧ x.cell? ⟨w2.heap.size, 1, none⟩ = some (.slice a6 d'.cache.length c6) ∧ Below w5.heap.size w5 x) → DOwn w.heap.size w5.heap.size x (.agg #[.slice a5 d'.sec.length c5, .slice a6 d'.cache.length c6]) d') := fun x hx => IK.dsk.later hx.2.2
            have HK0 : Hid (w5.drew.cell? ⟨w2.heap.size, 0, none⟩ = some (.slice a5 d'.sec.length c5) ∧ w5.drew.cell? ⟨w2.heap.size, 1, none⟩ = some (.slice a6 d'.cache.length c6) ∧ Below w5.heap.size w5 w5.drew) := ⟨m0, m1, (Below.refl _ _).drew⟩
            have hlt2 : w2.heap.size < w5.heap.size := IK.out.lt
            have HB0 : Hid (Box (w5.alloc (.cells #[.slice none 0 0, .slice none 0 0] 25)).drew w5.heap.size #[.slice none 0 0, .slice none 0 0] 25) := Box.new w5 _ _
            clear IK hlt' m0 m1
            go_region_held3 (fun x => x.cell? ⟨w2.heap.size, 0, none⟩ = some (.slice a5 d'.sec.length c5) ∧ x.cell? ⟨w2.heap.size, 1, none⟩ = some (.slice a6 d'.cache.length c6) ∧ Below w5.heap.size w5 x)
              (first | exact HK0.out | exact keep2 (by assumption) (belAlloc _ _) | exact keep2 (by assumption) kS | exact keep2 hSS.out (belAlloc _ _) | exact keep2s hlt2 (Nat.le_refl _) (by assumption) | exact keep2s hlt2 tS (by assumption))
              (first
                | (go_at_call 67; refine (specWriteSector_any d' _ (kq : Int) S w.heap.size w5.heap.size _ (HS.out _ (by assumption)) hsm' hts' htu' (by omega)).mono ?_; rintro e wS ⟨vS, rfl, oS, kS⟩; rw [HDF.out.1] at oS; rw [HDF.out.2]; have hSS := Lib.hid (keep2 (by assumption) kS); have tS : w5.heap.size ≤ wS.heap.size := hSS.out.2.2.size; obtain ⟨e1, e2, e3, e4, rfl⟩ := oS.form; (first | (have bx : Box wS w5.heap.size #[.slice none 0 0, .slice none 0 0] 25 := HB0.out.later kS; have x0 := bx.cell 0 _ rfl; have x1 := bx.cell 1 _ rfl; have f0 := bx.loose 0; have f1 := bx.loose 1) | skip)))
            all_goals
              go_wp2_with fail
              go_meet
              first
                | exact ⟨_, e1, e2, e3, e4, rfl, rfl, tS, Box.new wS _ _, ((oS.later (belAlloc _ _)).base (Nat.le_refl _)).top, hSS.out.2.2.alloc tS _⟩
                | exact ⟨_, e1, e2, e3, e4, rfl, rfl, Nat.le_refl _, (bx.set 0 _).set 1 _, (((oS.base (by simp)).boxStore bx 0 _).boxStore (bx.set 0 _) 1 _).top, (hSS.out.2.2.setCell (p := ⟨w5.heap.size, 0, none⟩) (Nat.le_refl _) _).setCell (p := ⟨w5.heap.size, 1, none⟩) (Nat.le_refl _) _⟩
          case rest =>
            obtain ⟨g, e1, e2, e3, e4, rfl, rfl, hgle, bxc, oD, kD⟩ := hcut
            have IK5 := IK.later kD
            clear IK
            have IK := IK5
            clear IK5
            have hz5 := IK.bel.size
            cases F with
            | false =>
            have HNN : Hid (wbL d (se + A / 32) (A % 32) t.data.toList = none) := by
              show _ = _
              rw [HWB.out]
              exact wb_refused HRO.out hw32 (by have := HKQ.out; omega) (by have := HFR.out; omega) hnx.out hlt HSq.out (of_decide_eq_false HDF.out.2)
            have c0 := IK.inn.cell 0 (.slice aa d.sec.length ca) rfl
            have c1 := IK.inn.cell 1 (.slice ab d.cache.length cb) rfl
            go_wp2_with fail
            refine (specCopy_any d _ B T _ IK.was hsm).mono ?_
            rintro e wX ⟨vX, rfl, oX, kX⟩
            obtain ⟨p1, p2, r1, r2, rfl⟩ := oX.form
            have IX := IK.later kX
            have x0 := IX.res.cell 0 (.slice none 0 0) rfl
            have x1 := IX.res.cell 1 (.slice none 0 0) rfl
            have f0 := IX.res.loose 0
            have f1 := IX.res.loose 1
            have rX := (IX.res.set 0 (.slice p1 d.sec.length r1)).set 1 (.slice p2 d.cache.length r2)
            have HR : Hid (DiskR d false w (.returned (.tuple #[.agg #[.slice p1 d.sec.length r1, .slice p2 d.cache.length r2], .bool false])) ((wX.setCell ⟨w.heap.size + 1, 0, none⟩ (.slice p1 d.sec.length r1)).setCell ⟨w.heap.size + 1, 1, none⟩ (.slice p2 d.cache.length r2))) := by
              refine ⟨_, rfl, ?_, (IX.bel.setCell (p := ⟨w.heap.size + 1, 0, none⟩) (by simp) _).setCell (p := ⟨w.heap.size + 1, 1, none⟩) (by simp) _⟩
              have := ((oX.base (IK.bel.size)).boxStore IX.res 0 (.slice p1 d.sec.length r1)).boxStore (IX.res.set 0 (.slice p1 d.sec.length r1)) 1 (.slice p2 d.cache.length r2)
              simpa using this
            have q0 := rX.cell 0 (.slice p1 d.sec.length r1) rfl
            have q1 := rX.cell 1 (.slice p2 d.cache.length r2) rfl
            clear IK IX rX oX kX c0 c1 bxc oD
            go_wp2
            refine bodyPost_ret (v := .tuple #[.agg #[.slice p1 d.sec.length r1, .slice p2 d.cache.length r2], .bool false]) (by simp [results, Tryz.results42, go_sem, q0, q1]) rfl ?_
            exact ⟨d, false, hok, rfl, by omega, HNN.out, fun _ => rfl, HR.out⟩
            | true =>
              have HWN : Hid (wbL d (se + A / 32) (A % 32) t.data.toList = wbL D (se + (A + (i + n)) / 32) ((A + (i + n)) % 32) (t.data.toList.drop (i + n))) := by
                show _ = _
                rw [HWB.out, ← HDF.out.1]
                exact wb_round HRO.out hw32 (by have := HKQ.out; omega) (by have := HFR.out; omega) hnx.out hlt HSq.out (of_decide_eq_true HDF.out.2)
              have hout := IK.out
              have hblt := IK.lt
              have hbg : w2.heap.size ≠ g := by
                intro e
                have h1 := hlt5
                omega
              have x0 := bxc.cell 0 (.slice e1 D.sec.length e3) rfl
              have x1 := bxc.cell 1 (.slice e2 D.cache.length e4) rfl
              have y0 := hout.cell 0 (.slice a5 d'.sec.length c5) rfl
              have y1 := hout.cell 1 (.slice a6 d'.cache.length c6) rfl
              have f0 := hout.loose 0
              have f1 := hout.loose 1
              have IN : Hid (WbI w (.slice aa d.sec.length ca) (.slice ab d.cache.length cb) w2.heap.size (.slice e1 D.sec.length e3) (.slice e2 D.cache.length e4) d D B T ((wc.setCell ⟨w2.heap.size, 0, none⟩ (.slice e1 D.sec.length e3)).setCell ⟨w2.heap.size, 1, none⟩ (.slice e2 D.cache.length e4))) := by
                have o1 := hout.set 0 (.slice e1 D.sec.length e3)
                refine ⟨(IK.bel.setCell (p := ⟨w2.heap.size, 0, none⟩) (by show w.heap.size ≤ w2.heap.size; omega) _).setCell (p := ⟨w2.heap.size, 1, none⟩) (by show w.heap.size ≤ w2.heap.size; omega) _, (IK.inn.other (by omega) _ _).other (by omega) _ _, (IK.res.other (by omega) _ _).other (by omega) _ _, o1.set 1 _, ?_, (IK.was.boxStore hout 0 _).boxStore o1 1 _, hblt⟩
                have := (((oD.base hw5le).boxStore hout 0 (.slice e1 D.sec.length e3)).boxStore o1 1 (.slice e2 D.cache.length e4)).top
                exact this
              clear IK hout bxc oD kD
              go_wp2
              go_roundw
              case rel => exact ⟨i + n, D, _, _, by omega, by go_num, HDok.out.1.1, HDok.out.1.2.trans hlen.out, HQ.out.next hlt hn0 (by have := HFR.out; omega) hend.out HDok.out.2, HWN, IN.out⟩
              case measure => simp [intOf]; omega
      · obtain ⟨n, hnn, hn0, hn1, hn2, hnx⟩ : ∃ n : Nat, 32 - (fr : Int) = (n : Int) ∧ 0 < n ∧ fr + n ≤ 32 ∧ i + n ≤ t.size ∧ Hid (n = min (32 - fr) (t.size - i)) := ⟨32 - fr, by omega, by omega, by omega, by have := HFR.out; omega, by show _ = _; have := HFR.out; omega⟩
        have hend : Hid ((A + (i + n)) % 32 = 0 ∨ i + n = t.size) := .inl (by have := HFR.out; omega)
        rw [HKQ.out, HFR.out, hnn]
        clear hnn
        go_wp2_with fail
        refine (specReadSector_any d' _ (kq : Int) _ I.dsk.rd hsm').mono ?_
        rintro e w5 ⟨rfl, k5⟩
        have IK := I.later k5
        clear m0 m1 k5 I
        rcases rdT_ok hok' (kq : Int) with ⟨hbey, hr⟩ | ⟨ws, hw32, hin, hr⟩
        · rw [hr]
          clear hr
          have HNN : Hid (wbL d (se + A / 32) (A % 32) t.data.toList = none) := by
            show _ = _
            rw [HWB.out]
            exact wb_beyond hlt (fun hc => hbey ⟨by omega, by have := HKQ.out; omega⟩)
          clear hbey
          have c0 := IK.inn.cell 0 (.slice aa d.sec.length ca) rfl
          have c1 := IK.inn.cell 1 (.slice ab d.cache.length cb) rfl
          go_wp2_with fail
          refine (specCopy_any d _ B T _ IK.was hsm).mono ?_
          rintro e wX ⟨vX, rfl, oX, kX⟩
          obtain ⟨p1, p2, r1, r2, rfl⟩ := oX.form
          have IX := IK.later kX
          have x0 := IX.res.cell 0 (.slice none 0 0) rfl
          have x1 := IX.res.cell 1 (.slice none 0 0) rfl
          have f0 := IX.res.loose 0
          have f1 := IX.res.loose 1
          have rX := (IX.res.set 0 (.slice p1 d.sec.length r1)).set 1 (.slice p2 d.cache.length r2)
          have HR : Hid (DiskR d false w (.returned (.tuple #[.agg #[.slice p1 d.sec.length r1, .slice p2 d.cache.length r2], .bool false])) ((wX.setCell ⟨w.heap.size + 1, 0, none⟩ (.slice p1 d.sec.length r1)).setCell ⟨w.heap.size + 1, 1, none⟩ (.slice p2 d.cache.length r2))) := by
            refine ⟨_, rfl, ?_, (IX.bel.setCell (p := ⟨w.heap.size + 1, 0, none⟩) (by simp) _).setCell (p := ⟨w.heap.size + 1, 1, none⟩) (by simp) _⟩
            have := ((oX.base (IK.bel.size)).boxStore IX.res 0 (.slice p1 d.sec.length r1)).boxStore (IX.res.set 0 (.slice p1 d.sec.length r1)) 1 (.slice p2 d.cache.length r2)
            simpa using this
          have q0 := rX.cell 0 (.slice p1 d.sec.length r1) rfl
          have q1 := rX.cell 1 (.slice p2 d.cache.length r2) rfl
          clear IK IX rX oX kX c0 c1
          go_wp2
          refine bodyPost_ret (v := .tuple #[.agg #[.slice p1 d.sec.length r1, .slice p2 d.cache.length r2], .bool false]) (by simp [results, Tryz.results42, go_sem, q0, q1]) rfl ?_
          exact ⟨d, false, hok, rfl, by omega, HNN.out, fun _ => rfl, HR.out⟩
        · have HRO := Lib.hid (rdO_of hr)
          rw [hr]
          clear hr
          have hws2 : ((ws.size : Int) != 32) = false := by rw [hw32]; rfl
          have hlt5 : w2.heap.size < w5.heap.size := IK.out.lt
          have hw5le : w.heap.size ≤ w5.heap.size := IK.bel.size
          go_upto_region 14 with fail
          have b1 : (fr : Int) ≤ (ws.size : Int) := by omega
          have sl1 : ∀ wx, (Instr.slice 9 (.string ws) none (some (.int .i64 (fr : Int))) none).run Tryz.prog wx = .ok (.string (ws.extract 0 fr)) wx := fun wx => by
            have := run_slice_string_to_if (P := Tryz.prog) (w := wx) 9 ws .i64 (fr : Int) Tryz.underlying9
            rw [this]; simp; omega
          have sl2 : ∀ wx, (Instr.slice 9 (.string t) (some (.int .i64 (i : Int))) (some (.int .i64 ((i : Int) + (n : Int)))) none).run Tryz.prog wx = .ok (.string (t.extract i (i + n))) wx := fun wx => by
            have := run_slice_string (P := Tryz.prog) (w := wx) 9 t .i64 .i64 (i : Int) ((i : Int) + (n : Int)) Tryz.underlying9 (by omega) (by omega) (by omega)
            rw [this]
            congr 3
          have sl3 : ∀ wx, (Instr.slice 9 (.string ws) (some (.int .i64 ((fr : Int) + (n : Int)))) none none).run Tryz.prog wx = .ok (.string (ws.extract (fr + n) ws.size)) wx := fun wx => by
            have := run_slice_string_from_if (P := Tryz.prog) (w := wx) 9 ws .i64 ((fr : Int) + (n : Int)) Tryz.underlying9
            rw [this, if_pos ⟨by omega, by omega⟩]
            congr 3
          have z1 : (ws.extract 0 fr).size = fr := by rw [ByteArray.size_extract]; omega
          have z2 : (t.extract i (i + n)).size = n := by rw [ByteArray.size_extract]; omega
          have z3 : (ws.extract (fr + n) ws.size).size = 32 - (fr + n) := by rw [ByteArray.size_extract]; omega
          generalize hA1 : ws.extract 0 fr = A1 at sl1 z1
          generalize hA2 : t.extract i (i + n) = A2 at sl2 z2
          generalize hA3 : ws.extract (fr + n) ws.size = A3 at sl3 z3
          have ad1 := fun (wx : World) => run_string_add_sum (P := Tryz.prog) (w := wx) A1 A2 (by omega)
          have ad2 := fun (wx : World) => run_string_add_sum (P := Tryz.prog) (w := wx) (A1 ++ A2) A3 (by rw [ByteArray.size_append]; omega)
          have hw1 : IntKind.i64.wrap ((i : Int) + (n : Int)) = (i : Int) + (n : Int) := IntWalk.i64_in _ ⟨by omega, by omega⟩
          have hw2 : IntKind.i64.wrap ((fr : Int) + (n : Int)) = (fr : Int) + (n : Int) := IntWalk.i64_in _ ⟨by omega, by omega⟩
          have hsz : (A1 ++ A2 ++ A3).size = 32 := by simp only [ByteArray.size_append]; omega
          generalize hSq : A1 ++ A2 ++ A3 = S at ad2 hsz
          have HSq : Hid (S = ws.extract 0 fr ++ t.extract i (i + n) ++ ws.extract (fr + n) ws.size) := by show _ = _; rw [hA1, hA2, hA3, hSq]
          clear hA1 hA2 hA3 hSq
          obtain ⟨D, hD⟩ : ∃ D, wrD d' (kq : Int) S = D := ⟨_, rfl⟩
          obtain ⟨F, hF⟩ : ∃ F, decide (wrOk d' (kq : Int) S) = F := ⟨_, rfl⟩
          have hDok : (D.ok ∧ D.sec.length = d'.sec.length) ∧ D.cache.length ≤ d'.cache.length + 1 := by rw [← hD]; exact ⟨wrD_ok hok' _ _, wrD_more _ _ _⟩
          have HDF : Hid (wrD d' (kq : Int) S = D ∧ decide (wrOk d' (kq : Int) S) = F) := ⟨hD, hF⟩
          have HDok := Lib.hid hDok
          clear hD hF hDok
          go_cut [17, 18] from 80 to 101 (fun p f wx => ∃ (g : Nat) (e1 e2 : Option Addr) (e3 e4 : Nat), p = .pointer (some ⟨g, 0, none⟩) ∧ f = .bool F ∧ w5.heap.size ≤ g ∧ Box wx g #[.slice e1 D.sec.length e3, .slice e2 D.cache.length e4] 25 ∧ DOwn w5.heap.size wx.heap.size wx (.agg #[.slice e1 D.sec.length e3, .slice e2 D.cache.length e4]) D ∧ Below w5.heap.size w5 wx)
          case first =>
            have m0 := IK.out.cell 0 (.slice a5 d'.sec.length c5) rfl
            have m1 := IK.out.cell 1 (.slice a6 d'.cache.length c6) rfl
            have HS : Hid (∀ x : World, (x.cell? ⟨w2.heap.size, 0, none⟩ = some (.slice a5 d'.sec.length c5) ∧ x.cell? ⟨w2.heap.size, 1, none⟩ = some (.slice a6 d'.cache.length c6) ∧ Below w5.heap.size w5 x) → DOwn w.heap.size w5.heap.size x (.agg #[.slice a5 d'.sec.length c5, .slice a6 d'.cache.length c6]) d') := fun x hx => IK.dsk.later hx.2.2
            have HK0 : Hid (w5.drew.cell? ⟨w2.heap.size, 0, none⟩ = some (.slice a5 d'.sec.length c5) ∧ w5.drew.cell? ⟨w2.heap.size, 1, none⟩ = some (.slice a6 d'.cache.length c6) ∧ Below w5.heap.size w5 w5.drew) := ⟨m0, m1, (Below.refl _ _).drew⟩
            have hlt2 : w2.heap.size < w5.heap.size := IK.out.lt
            have HB0 : Hid (Box (w5.alloc (.cells #[.slice none 0 0, .slice none 0 0] 25)).drew w5.heap.size #[.slice none 0 0, .slice none 0 0] 25) := Box.new w5 _ _
            clear IK hlt' m0 m1
            go_region_held3 (fun x => x.cell? ⟨w2.heap.size, 0, none⟩ = some (.slice a5 d'.sec.length c5) ∧ x.cell? ⟨w2.heap.size, 1, none⟩ = some (.slice a6 d'.cache.length c6) ∧ Below w5.heap.size w5 x)
              (first | exact HK0.out | exact keep2 (by assumption) (belAlloc _ _) | exact keep2 (by assumption) kS | exact keep2 hSS.out (belAlloc _ _) | exact keep2s hlt2 (Nat.le_refl _) (by assumption) | exact keep2s hlt2 tS (by assumption))
              (first
                | (go_at_call 67; refine (specWriteSector_any d' _ (kq : Int) S w.heap.size w5.heap.size _ (HS.out _ (by assumption)) hsm' hts' htu' (by omega)).mono ?_; rintro e wS ⟨vS, rfl, oS, kS⟩; rw [HDF.out.1] at oS; rw [HDF.out.2]; have hSS := Lib.hid (keep2 (by assumption) kS); have tS : w5.heap.size ≤ wS.heap.size := hSS.out.2.2.size; obtain ⟨e1, e2, e3, e4, rfl⟩ := oS.form; (first | (have bx : Box wS w5.heap.size #[.slice none 0 0, .slice none 0 0] 25 := HB0.out.later kS; have x0 := bx.cell 0 _ rfl; have x1 := bx.cell 1 _ rfl; have f0 := bx.loose 0; have f1 := bx.loose 1) | skip)))
            all_goals
              go_wp2_with fail
              go_meet
              first
                | exact ⟨_, e1, e2, e3, e4, rfl, rfl, tS, Box.new wS _ _, ((oS.later (belAlloc _ _)).base (Nat.le_refl _)).top, hSS.out.2.2.alloc tS _⟩
                | exact ⟨_, e1, e2, e3, e4, rfl, rfl, Nat.le_refl _, (bx.set 0 _).set 1 _, (((oS.base (by simp)).boxStore bx 0 _).boxStore (bx.set 0 _) 1 _).top, (hSS.out.2.2.setCell (p := ⟨w5.heap.size, 0, none⟩) (Nat.le_refl _) _).setCell (p := ⟨w5.heap.size, 1, none⟩) (Nat.le_refl _) _⟩
          case rest =>
            obtain ⟨g, e1, e2, e3, e4, rfl, rfl, hgle, bxc, oD, kD⟩ := hcut
            have IK5 := IK.later kD
            clear IK
            have IK := IK5
            clear IK5
            have hz5 := IK.bel.size
            cases F with
            | false =>
            have HNN : Hid (wbL d (se + A / 32) (A % 32) t.data.toList = none) := by
              show _ = _
              rw [HWB.out]
              exact wb_refused HRO.out hw32 (by have := HKQ.out; omega) (by have := HFR.out; omega) hnx.out hlt HSq.out (of_decide_eq_false HDF.out.2)
            have c0 := IK.inn.cell 0 (.slice aa d.sec.length ca) rfl
            have c1 := IK.inn.cell 1 (.slice ab d.cache.length cb) rfl
            go_wp2_with fail
            refine (specCopy_any d _ B T _ IK.was hsm).mono ?_
            rintro e wX ⟨vX, rfl, oX, kX⟩
            obtain ⟨p1, p2, r1, r2, rfl⟩ := oX.form
            have IX := IK.later kX
            have x0 := IX.res.cell 0 (.slice none 0 0) rfl
            have x1 := IX.res.cell 1 (.slice none 0 0) rfl
            have f0 := IX.res.loose 0
            have f1 := IX.res.loose 1
            have rX := (IX.res.set 0 (.slice p1 d.sec.length r1)).set 1 (.slice p2 d.cache.length r2)
            have HR : Hid (DiskR d false w (.returned (.tuple #[.agg #[.slice p1 d.sec.length r1, .slice p2 d.cache.length r2], .bool false])) ((wX.setCell ⟨w.heap.size + 1, 0, none⟩ (.slice p1 d.sec.length r1)).setCell ⟨w.heap.size + 1, 1, none⟩ (.slice p2 d.cache.length r2))) := by
              refine ⟨_, rfl, ?_, (IX.bel.setCell (p := ⟨w.heap.size + 1, 0, none⟩) (by simp) _).setCell (p := ⟨w.heap.size + 1, 1, none⟩) (by simp) _⟩
              have := ((oX.base (IK.bel.size)).boxStore IX.res 0 (.slice p1 d.sec.length r1)).boxStore (IX.res.set 0 (.slice p1 d.sec.length r1)) 1 (.slice p2 d.cache.length r2)
              simpa using this
            have q0 := rX.cell 0 (.slice p1 d.sec.length r1) rfl
            have q1 := rX.cell 1 (.slice p2 d.cache.length r2) rfl
            clear IK IX rX oX kX c0 c1 bxc oD
            go_wp2
            refine bodyPost_ret (v := .tuple #[.agg #[.slice p1 d.sec.length r1, .slice p2 d.cache.length r2], .bool false]) (by simp [results, Tryz.results42, go_sem, q0, q1]) rfl ?_
            exact ⟨d, false, hok, rfl, by omega, HNN.out, fun _ => rfl, HR.out⟩
            | true =>
              have HWN : Hid (wbL d (se + A / 32) (A % 32) t.data.toList = wbL D (se + (A + (i + n)) / 32) ((A + (i + n)) % 32) (t.data.toList.drop (i + n))) := by
                show _ = _
                rw [HWB.out, ← HDF.out.1]
                exact wb_round HRO.out hw32 (by have := HKQ.out; omega) (by have := HFR.out; omega) hnx.out hlt HSq.out (of_decide_eq_true HDF.out.2)
              have hout := IK.out
              have hblt := IK.lt
              have hbg : w2.heap.size ≠ g := by
                intro e
                have h1 := hlt5
                omega
              have x0 := bxc.cell 0 (.slice e1 D.sec.length e3) rfl
              have x1 := bxc.cell 1 (.slice e2 D.cache.length e4) rfl
              have y0 := hout.cell 0 (.slice a5 d'.sec.length c5) rfl
              have y1 := hout.cell 1 (.slice a6 d'.cache.length c6) rfl
              have f0 := hout.loose 0
              have f1 := hout.loose 1
              have IN : Hid (WbI w (.slice aa d.sec.length ca) (.slice ab d.cache.length cb) w2.heap.size (.slice e1 D.sec.length e3) (.slice e2 D.cache.length e4) d D B T ((wc.setCell ⟨w2.heap.size, 0, none⟩ (.slice e1 D.sec.length e3)).setCell ⟨w2.heap.size, 1, none⟩ (.slice e2 D.cache.length e4))) := by
                have o1 := hout.set 0 (.slice e1 D.sec.length e3)
                refine ⟨(IK.bel.setCell (p := ⟨w2.heap.size, 0, none⟩) (by show w.heap.size ≤ w2.heap.size; omega) _).setCell (p := ⟨w2.heap.size, 1, none⟩) (by show w.heap.size ≤ w2.heap.size; omega) _, (IK.inn.other (by omega) _ _).other (by omega) _ _, (IK.res.other (by omega) _ _).other (by omega) _ _, o1.set 1 _, ?_, (IK.was.boxStore hout 0 _).boxStore o1 1 _, hblt⟩
                have := (((oD.base hw5le).boxStore hout 0 (.slice e1 D.sec.length e3)).boxStore o1 1 (.slice e2 D.cache.length e4)).top
                exact this
              clear IK hout bxc oD kD
              go_wp2
              go_roundw
              case rel => exact ⟨i + n, D, _, _, by omega, by go_num, HDok.out.1.1, HDok.out.1.2.trans hlen.out, HQ.out.next hlt hn0 (by have := HFR.out; omega) hend.out HDok.out.2, HWN, IN.out⟩
              case measure => simp [intOf]; omega
    · have HWF : Hid (wbL d (se + A / 32) (A % 32) t.data.toList = some d') := by
        show _ = _
        rw [HWB.out, List.drop_eq_nil_of_le (by rw [Array.length_toList]; show t.size ≤ i; omega), wbL_nil]
      have x0 := I.res.cell 0 (.slice none 0 0) rfl
      have x1 := I.res.cell 1 (.slice none 0 0) rfl
      have f0 := I.res.loose 0
      have f1 := I.res.loose 1
      have r2 := (I.res.set 0 (.slice a5 d'.sec.length c5)).set 1 (.slice a6 d'.cache.length c6)
      have HR : Hid (DiskR d' true w (.returned (.tuple #[.agg #[.slice a5 d'.sec.length c5, .slice a6 d'.cache.length c6], .bool true])) ((wr.setCell ⟨w.heap.size + 1, 0, none⟩ (.slice a5 d'.sec.length c5)).setCell ⟨w.heap.size + 1, 1, none⟩ (.slice a6 d'.cache.length c6))) := by
        refine ⟨_, rfl, ?_, (I.bel.setCell (p := ⟨w.heap.size + 1, 0, none⟩) (by simp) _).setCell (p := ⟨w.heap.size + 1, 1, none⟩) (by simp) _⟩
        have := (I.dsk.boxStore I.res 0 (.slice a5 d'.sec.length c5)).boxStore (I.res.set 0 (.slice a5 d'.sec.length c5)) 1 (.slice a6 d'.cache.length c6)
        simpa using this
      have q0 := r2.cell 0 (.slice a5 d'.sec.length c5) rfl
      have q1 := r2.cell 1 (.slice a6 d'.cache.length c6) rfl
      clear I r2
      go_wp2
      refine bodyPost_ret (v := .tuple #[.agg #[.slice a5 d'.sec.length c5, .slice a6 d'.cache.length c6], .bool true]) (by simp [results, Tryz.results42, go_sem, q0, q1]) rfl ?_
      exact ⟨d', true, hok', hlen.out, HQ.out.fin hi, by rw [HWF.out]; rfl, fun e => (by cases e), HR.out⟩

end Go.Proofs.YtgcnebepklelpaaGreatDoor

/- Disks: what the program's WriteBytes hands back, within a disk. -/
namespace Go.Proofs.YtgcnebepklelpaaGreatDoor
open Go.RowKit

theorem rdT_O (d : Dk) (a : Int) : ∃ b : Bool, rdT d a = .tuple #[.string ((rdO d a).getD ⟨#[]⟩), .bool b] := by
  cases h : rdO d a with
  | none => exact ⟨false, rdT_none h⟩
  | some t => exact ⟨true, rdT_some h⟩

def szOf (v : Value) : Nat := match v with | .string t => t.size | _ => 0
theorem szOf_string (t : ByteArray) : szOf (.string t) = t.size := rfl

theorem rng_next {W x y : World} {g : Nat} {cs : List Value} (hg : g < W.heap.size) (h : x.rangeAt g 0 cs ∧ Below W.heap.size W x) (hb : Below x.heap.size x y) : y.rangeAt g 0 cs ∧ Below W.heap.size W y :=
  ⟨fun j v hv => (hb.cell (p := ⟨g, 0 + j, none⟩) (Nat.lt_of_lt_of_le hg h.2.size)).trans (h.1 j v hv), h.2.trans (hb.mono h.2.size)⟩
theorem rng_set {W x : World} {g g' : Nat} {cs : List Value} {u v : Value} (hg : g < W.heap.size) (hg' : W.heap.size ≤ g') (h : x.rangeAt g 0 cs ∧ Below W.heap.size W x) : ((x.setCell ⟨g', 0, none⟩ u).setCell ⟨g', 1, none⟩ v).rangeAt g 0 cs ∧ Below W.heap.size W ((x.setCell ⟨g', 0, none⟩ u).setCell ⟨g', 1, none⟩ v) := by
  refine ⟨fun j y hy => ?_, (h.2.setCell (p := ⟨g', 0, none⟩) hg' u).setCell (p := ⟨g', 1, none⟩) hg' v⟩
  rw [World.cell?_setCell_other _ _ _ _ (by simp <;> omega), World.cell?_setCell_other _ _ _ _ (by simp <;> omega)]
  exact h.1 j y hy

theorem extract_rest (t : ByteArray) (n : Nat) : (t.extract n t.size).data.toList = t.data.toList.drop n := by
  rw [ByteArray.data_extract, Array.toList_extract, List.extract_eq_take_drop]
  rw [List.take_of_length_le]
  rw [List.length_drop, Array.length_toList]
  exact Nat.le_refl _

theorem DOwn.block {B T : Nat} {w w' : World} {v : Value} {d : Dk} {g : Nat} {cs : Array Value} {t : TypeId} (h : DOwn B T w v d) (hg : w.grownBy w' (some g)) (hb : Box w g cs t) (h1 : (9 : TypeId) ≠ t) (h2 : (104 : TypeId) ≠ t) : DOwn B T w' v d := by
  obtain ⟨va, vb, hv, l1, l2, l3⟩ := h
  exact ⟨va, vb, hv, l1.grown hg (.inr (hb.notRow l1.1 h1)), l2.grown hg (.inr (hb.notRow l2.1 h2)), l3⟩

theorem Box.ne {w : World} {b g : Nat} {cs cs' : Array Value} {t t' : TypeId} (h : Box w b cs t) (h' : Box w g cs' t') (hne : t ≠ t') : b ≠ g := by
  rintro rfl
  have e : some (Obj.cells cs t (0, 0)) = some (Obj.cells cs' t' (0, 0)) := h.symm.trans h'
  simp only [Option.some.injEq, Obj.cells.injEq] at e
  exact hne e.2.1

theorem WbI.block {w : World} {v1 v2 : Value} {b2 : Nat} {va vb : Value} {d d' : Dk} {B T : Nat} {X Y : World} {g : Nat} {cs : Array Value} (h : WbI w v1 v2 b2 va vb d d' B T X) (hg : X.grownBy Y (some g)) (hb : Box X g cs 110) (hgw : w.heap.size ≤ g) : WbI w v1 v2 b2 va vb d d' B T Y := by
  have n1 := h.inn.ne hb (by decide)
  have n2 := h.res.ne hb (by decide)
  have n3 := h.out.ne hb (by decide)
  have kp : ∀ {b : Nat} {cs : Array Value} {t : TypeId}, Box X b cs t → b ≠ g → Box Y b cs t := fun hx hn => (hg.block _ hx.lt (fun e => hn (Option.some.inj e))).trans hx
  exact ⟨h.bel.grown hg h.bel.size (fun k hk => by have := Option.some.inj hk; omega), kp h.inn n1, kp h.res n2, kp h.out n3, (h.dsk.block hg hb (by decide) (by decide)).top, h.was.block hg hb (by decide) (by decide), h.lt⟩

theorem run_sec_from (g fr : Nat) (hf : fr < 32) (wx : World) : (Instr.sliceAt 110 (.pointer (some ⟨g, 0, none⟩)) (some (.int .i64 (fr : Int))) none none).run Tryz.prog wx = .ok (.slice (some ⟨g, fr, none⟩) (32 - fr) (32 - fr)) wx := by
  have hl : Tryz.prog.arrayLen 110 = 32 := by kernel_rfl
  have he : Tryz.prog.elem 110 = 5 := by kernel_rfl
  rw [run_sliceAt_array_l wx 110 ⟨g, 0, none⟩ (by rw [hl, he]; exact Tryz.underlying110) .i64 (fr : Int) (by omega) (by rw [hl]; omega), hl, he, Tryz.sizeOf5]
  simp only [Result.andThen, slicedAt, Int.toNat_natCast, Nat.mul_one]
  rw [if_neg (by omega), Addr.add_lit, Nat.zero_add]

set_option maxRecDepth 100000 in
set_option maxHeartbeats 4000000 in
theorem implWriteBytes_in (d : Dk) (v : Value) (se A : Nat) (t : ByteArray) (B T : Nat) (w : World) (h : DOwn B T w v d) (hsm : d.small) (hts : ∀ s ∈ d.sec, s.size ≤ 1099511627776) (htu : ∀ x ∈ d.cache, x.text.size ≤ 1099511627776) (hcl : d.cache.length < 1073741824) (hse : se < d.sec.length) (hA : A ≤ 3200) (htz : t.size ≤ 1099511627776) :
    Calls Tryz.prog 73 #[v, .int .i64 (se : Int), .int .i64 (A : Int), .string t] w fun e w' => DiskR ((wbL d (se + A / 32) (A % 32) t.data.toList).getD d) (wbL d (se + A / 32) (A % 32) t.data.toList).isSome w e w' := by
  obtain ⟨aa, ab, ca, cb, rfl⟩ := h.form
  obtain ⟨hx0, hx1, b0, hsz⟩ := two_boxes w #[.slice aa d.sec.length ca, .slice ab d.cache.length cb] #[.slice none 0 0, .slice none 0 0] 25 25
  have h' := h.later b0
  have c0 := hx0.cell 0 (.slice aa d.sec.length ca) rfl
  have c1 := hx0.cell 1 (.slice ab d.cache.length cb) rfl
  have hlen : d.sec.length ≤ 1073741824 := hsm.1
  have g1 : ¬ (A : Int) < 0 := by omega
  have g2 : ¬ (3200 : Int) < (A : Int) := by omega
  have g3 : ¬ (se : Int) < 0 := by omega
  have g4 : (se : Int) < (d.sec.length : Int) := by omega
  obtain ⟨R, hR⟩ : ∃ R, wbL d (se + A / 32) (A % 32) t.data.toList = R := ⟨_, rfl⟩
  rw [hR]
  have HR := Lib.hid hR
  clear hR
  go_enter Tryz.func73, Tryz.ntmps73
  go_wp2_with fail
  generalize ((w.alloc (.cells #[.slice aa d.sec.length ca, .slice ab d.cache.length cb] 25)).alloc (.cells #[.slice none 0 0, .slice none 0 0] 25)) = W at hx0 hx1 b0 hsz h' c0 c1 ⊢
  refine (copyDisk_any d _ B T _ h' hsm hts htu).mono ?_
  rintro e w2 ⟨v2, rfl, o2, k2⟩
  obtain ⟨a1, a2, q1, q2, rfl⟩ := o2.form
  have k3 : Below w2.heap.size w2 (w2.alloc (.cells #[.slice a1 d.sec.length q1, .slice a2 d.cache.length q2] 25)) := belAlloc _ _
  have j3 := k2.trans (k3.mono k2.size)
  have hz2 := k2.size
  have I3 : WbI w (.slice aa d.sec.length ca) (.slice ab d.cache.length cb) w2.heap.size (.slice a1 d.sec.length q1) (.slice a2 d.cache.length q2) d d B T (w2.alloc (.cells #[.slice a1 d.sec.length q1, .slice a2 d.cache.length q2] 25)) :=
    ⟨b0.trans (j3.mono b0.size), hx0.later j3, hx1.later j3, Box.new w2 _ _, ((o2.later k3).base (by omega)).top, h'.later j3, by omega⟩
  go_upto_region 4 with fail
  generalize w2.alloc (.cells #[.slice a1 d.sec.length q1, .slice a2 d.cache.length q2] 25) = w3 at I3 ⊢
  clear hx0 hx1 b0 h' h k3 j3 o2 c0 c1 g1 g2 g3 g4
  have HCP : Hid (d.small ∧ (∀ s ∈ d.sec, s.size ≤ 1099511627776) ∧ ∀ x ∈ d.cache, x.text.size ≤ 1099511627776) := ⟨hsm, hts, htu⟩
  obtain ⟨K, hK⟩ : ∃ K : Nat, (se : Int) + (A : Int) / 32 = (K : Int) := ⟨se + A / 32, by omega⟩
  obtain ⟨F, hF⟩ : ∃ F : Nat, (A : Int) % 32 = (F : Int) := ⟨A % 32, by omega⟩
  have hK0 : Hid (K = se + A / 32 ∧ F = A % 32) := ⟨by omega, by omega⟩
  have hKl : K ≤ 1073742000 := by omega
  have hF32 : F < 32 := by omega
  have HI0 : Hid (d.small ∧ ((∀ s ∈ d.sec, s.size ≤ 1099511627776) ∧ ∀ x ∈ d.cache, x.text.size ≤ 1099511627776) ∧ d.cache.length < 1073741824) := ⟨hsm, ⟨hts, htu⟩, hcl⟩
  clear hsm hts htu
  have HFF := Lib.hid hF
  go_wp2
  clear hK hF
  go_loopw [3, 11, 12] (fun tv pv fv wr => ∃ (t' : ByteArray) (k fr : Nat) (d' : Dk) (va vb : Value), tv = .string t' ∧ pv = .int .i64 (k : Int) ∧ fv = .int .i64 (fr : Int) ∧ fr < 32 ∧ k ≤ 1073742000 ∧ t'.size ≤ 1099511627776 ∧ (d'.small ∧ ((∀ s ∈ d'.sec, s.size ≤ 1099511627776) ∧ ∀ x ∈ d'.cache, x.text.size ≤ 1099511627776) ∧ d'.cache.length < 1073741824) ∧ wbL d' k fr t'.data.toList = R ∧ WbI w (.slice aa d.sec.length ca) (.slice ab d.cache.length cb) w2.heap.size va vb d d' B T wr) (fun tv _ _ _ => szOf tv)
  case atStart => exact ⟨t, K, F, d, _, _, rfl, rfl, by first | rfl | exact congrArg (Value.int .i64) HFF.out, hF32, hKl, htz, HI0.out, by rw [hK0.out.1, hK0.out.2]; exact HR.out, I3⟩
  case round =>
    clear I3 HI0 hK0 hKl hF32 HR
    obtain ⟨t', k, fr, d', va, vb, rfl, rfl, rfl, hfr, hk, htz', ⟨hsm', hbd', hcl'⟩, hR', I⟩ := hrel
    have HR := Lib.hid hR'
    have HB := Lib.hid hbd'
    clear hR' hbd'
    obtain ⟨a5, a6, c5, c6, hv5⟩ := I.dsk.form
    simp only [Value.agg.injEq, Array.mk.injEq, List.cons.injEq, and_true] at hv5
    obtain ⟨rfl, rfl⟩ := hv5
    have m0 := I.out.cell 0 (.slice a5 d'.sec.length c5) rfl
    have m1 := I.out.cell 1 (.slice a6 d'.cache.length c6) rfl
    by_cases he : t' = ⟨#[]⟩
    · subst he
      have x0 := I.res.cell 0 (.slice none 0 0) rfl
      have x1 := I.res.cell 1 (.slice none 0 0) rfl
      have f0 := I.res.loose 0
      have f1 := I.res.loose 1
      have r2 := (I.res.set 0 (.slice a5 d'.sec.length c5)).set 1 (.slice a6 d'.cache.length c6)
      have HD : Hid (DiskR d' true w (.returned (.tuple #[.agg #[.slice a5 d'.sec.length c5, .slice a6 d'.cache.length c6], .bool true])) ((wr.setCell ⟨w.heap.size + 1, 0, none⟩ (.slice a5 d'.sec.length c5)).setCell ⟨w.heap.size + 1, 1, none⟩ (.slice a6 d'.cache.length c6))) := by
        refine ⟨_, rfl, ?_, (I.bel.setCell (p := ⟨w.heap.size + 1, 0, none⟩) (by simp) _).setCell (p := ⟨w.heap.size + 1, 1, none⟩) (by simp) _⟩
        have := (I.dsk.boxStore I.res 0 (.slice a5 d'.sec.length c5)).boxStore (I.res.set 0 (.slice a5 d'.sec.length c5)) 1 (.slice a6 d'.cache.length c6)
        simpa using this
      have q0 := r2.cell 0 (.slice a5 d'.sec.length c5) rfl
      have q1 := r2.cell 1 (.slice a6 d'.cache.length c6) rfl
      have HRR : Hid (R = some d') := show R = some d' from by rw [← HR.out]; exact wbL_nil _ _ _
      clear I r2
      go_wp2
      refine bodyPost_ret (v := .tuple #[.agg #[.slice a5 d'.sec.length c5, .slice a6 d'.cache.length c6], .bool true]) (by simp [results, Tryz.results73, go_sem, q0, q1]) rfl ?_
      rw [HRR.out]; exact HD.out
    · have hne : ¬ t'.data.toList = [] := fun e => he (by obtain ⟨⟨l⟩⟩ := t'; simp at e; rw [e])
      have hne2 : (t'.toList == []) = false := by rw [Go.ByteArray.toList_eq]; exact beq_eq_false_iff_ne.2 hne
      obtain ⟨bb, hrd⟩ := rdT_O d' (k : Int)
      obtain ⟨o, ho⟩ : ∃ o, (rdO d' (k : Int)).getD ⟨#[]⟩ = o := ⟨_, rfl⟩
      rw [ho] at hrd
      have HRD := Lib.hid hrd
      have HO := Lib.hid ho
      clear hrd ho
      go_wp2_with fail
      refine (implReadSector_any d' _ (k : Int) _ I.dsk.rd hsm' HB.out.1 HB.out.2).mono ?_
      rintro e w5 ⟨rfl, k5⟩
      rw [HRD.out]
      have I5 := I.later k5
      clear m0 m1 k5 I
      go_wp2_with fail
      refine (sectorOf_any o _).mono ?_
      rintro e w6 ⟨rfl, k6⟩
      have I6 := I5.later k6
      have y0 := Box.new w6 #[.int .u8 0, .int .u8 0, .int .u8 0, .int .u8 0, .int .u8 0, .int .u8 0, .int .u8 0, .int .u8 0, .int .u8 0, .int .u8 0, .int .u8 0, .int .u8 0, .int .u8 0, .int .u8 0, .int .u8 0, .int .u8 0, .int .u8 0, .int .u8 0, .int .u8 0, .int .u8 0, .int .u8 0, .int .u8 0, .int .u8 0, .int .u8 0, .int .u8 0, .int .u8 0, .int .u8 0, .int .u8 0, .int .u8 0, .int .u8 0, .int .u8 0, .int .u8 0] 110
      have hz : (#[.int .u8 0, .int .u8 0, .int .u8 0, .int .u8 0, .int .u8 0, .int .u8 0, .int .u8 0, .int .u8 0, .int .u8 0, .int .u8 0, .int .u8 0, .int .u8 0, .int .u8 0, .int .u8 0, .int .u8 0, .int .u8 0, .int .u8 0, .int .u8 0, .int .u8 0, .int .u8 0, .int .u8 0, .int .u8 0, .int .u8 0, .int .u8 0, .int .u8 0, .int .u8 0, .int .u8 0, .int .u8 0, .int .u8 0, .int .u8 0, .int .u8 0, .int .u8 0] : Array Value).size = 32 := rfl
      have b7 : Below w6.heap.size w6 (w6.alloc (.cells #[.int .u8 0, .int .u8 0, .int .u8 0, .int .u8 0, .int .u8 0, .int .u8 0, .int .u8 0, .int .u8 0, .int .u8 0, .int .u8 0, .int .u8 0, .int .u8 0, .int .u8 0, .int .u8 0, .int .u8 0, .int .u8 0, .int .u8 0, .int .u8 0, .int .u8 0, .int .u8 0, .int .u8 0, .int .u8 0, .int .u8 0, .int .u8 0, .int .u8 0, .int .u8 0, .int .u8 0, .int .u8 0, .int .u8 0, .int .u8 0, .int .u8 0, .int .u8 0] 110)) := belAlloc _ _
      have I7 := I6.later b7
      clear I5 k6
      go_wp2_with ((with_reducible refine wpList_store_sec rfl _ _ rfl w6.heap.size (secOf o) ?_ ?_ _ _ y0 hz ?_); exact rfl; exact rfl; intro w8 x8 g8)
      have I8a : WbI w (.slice aa d.sec.length ca) (.slice ab d.cache.length cb) w2.heap.size (.slice a5 d'.sec.length c5) (.slice a6 d'.cache.length c6) d d' B T w8 := I7.block g8 y0 (by have := I6.bel.size; omega)
      have hf0 : (0 : Int) ≤ (fr : Int) := by omega
      have hf1 : (fr : Int) ≤ 32 := by omega
      have hf2 : ¬ 32 = fr := by omega
      have I6z : w.heap.size ≤ w6.heap.size := I6.bel.size
      clear I6 I7 y0 g8 b7
      go_wp2_with fail
      rw [run_sec_from _ fr hfr]
      simp only [Result.andThen]
      rw [Oper.upon_value]
      go_wp2_with fail
      refine upon_copy_text 134 9 3 5 w6.heap.size fr (32 - fr) (32 - fr) t' (secL o) 110 Tryz.underlying134 (by kernel_rfl) x8 (by rw [secL_length]; omega) ?_
      intro w9 x9 g9
      have I9 := I8a.block g9 x8 (by have := I8a.bel.size; have := x8.lt; have := I6z; omega)
      clear I8a x8 g9
      obtain ⟨n, hn⟩ : ∃ n : Nat, Nat.min t'.size (32 - fr) = n := ⟨_, rfl⟩
      have hn2 : n = min t'.size (32 - fr) := hn.symm
      rw [hn]
      clear hn
      have hnt : n ≤ t'.size := by omega
      have htp : 0 < t'.size := Nat.pos_of_ne_zero (fun e => hne (List.length_eq_zero_iff.1 (by rw [Array.length_toList]; exact e)))
      have hn0 : 0 < n := by omega
      have HN2 := Lib.hid hn2
      clear hn2
      have hl32 : (splice (secL o) fr (t'.data.toList.take (32 - fr))).length = 32 := by rw [length_splice _ _ _ (by rw [secL_length, List.length_take]; omega), secL_length]
      obtain ⟨S, hS⟩ : ∃ S : Sec, S.1 = splice (secL o) fr (t'.data.toList.take (32 - fr)) := ⟨⟨_, hl32⟩, rfl⟩
      clear hl32
      rw [← hS] at x9
      have HSW : Hid (⟨S.1.toArray⟩ = wbS d' k fr t'.data.toList) := show _ = _ by unfold wbS; rw [HO.out, hS]
      clear hS
      obtain ⟨ST, hST⟩ : ∃ ST : ByteArray, (⟨S.1.toArray⟩ : ByteArray) = ST := ⟨_, rfl⟩
      have HST := Lib.hid hST
      rw [hST] at HSW
      have hST32 : ST.size = 32 := by rw [← hST]; show S.1.toArray.size = 32; rw [List.size_toArray]; exact S.2
      clear hST
      obtain ⟨D, hD⟩ : ∃ D, wrD d' (k : Int) ST = D := ⟨_, rfl⟩
      obtain ⟨F2, hF2⟩ : ∃ F2, decide (wrOk d' (k : Int) ST) = F2 := ⟨_, rfl⟩
      have HDF : Hid (wrD d' (k : Int) ST = D ∧ decide (wrOk d' (k : Int) ST) = F2) := ⟨hD, hF2⟩
      clear hD hF2
      have hz9 : w.heap.size ≤ w9.heap.size := I9.bel.size
      have hb29 : w2.heap.size < w9.heap.size := I9.out.lt
      go_upto_region 9 with fail
      have hund := Tryz.underlying110
      have hinf : (Tryz.prog.info? 110).map (·.size) = some (bytesV S.1).length := by rw [bytesV_length, S.2]; exact Tryz.secInfo
      have hg69 : w6.heap.size < w9.heap.size := x9.lt
      have HK0 : Hid (w9.drew.rangeAt w6.heap.size 0 (bytesV S.1) ∧ Below w9.heap.size w9 w9.drew) := ⟨fun j u hu => by rw [Nat.zero_add]; exact x9.cell j u (by simpa using hu), (Below.refl _ _).drew⟩
      have cO0 : ∀ x, Below w9.heap.size w9 x → x.cell? ⟨w2.heap.size, 0, none⟩ = some (.slice a5 d'.sec.length c5) := fun x hb => (I9.out.later hb).cell 0 _ rfl
      have cO1 : ∀ x, Below w9.heap.size w9 x → x.cell? ⟨w2.heap.size, 1, none⟩ = some (.slice a6 d'.cache.length c6) := fun x hb => (I9.out.later hb).cell 1 _ rfl
      have HDS : Hid (∀ x, (x.rangeAt w6.heap.size 0 (bytesV S.1) ∧ Below w9.heap.size w9 x) → DOwn w.heap.size w9.heap.size x (.agg #[.slice a5 d'.sec.length c5, .slice a6 d'.cache.length c6]) d') := fun x hb => I9.dsk.later hb.2
      go_cut [17, 18] (fun p q wx => ∃ (g : Nat) (e1 e2 : Option Addr) (e3 e4 : Nat), p = .pointer (some ⟨g, 0, none⟩) ∧ q = .bool F2 ∧ w9.heap.size ≤ g ∧ Box wx g #[.slice e1 D.sec.length e3, .slice e2 D.cache.length e4] 25 ∧ DOwn w9.heap.size wx.heap.size wx (.agg #[.slice e1 D.sec.length e3, .slice e2 D.cache.length e4]) D ∧ Below w9.heap.size w9 wx)
      case first =>
        have HB0 : Hid (Box (w9.alloc (.cells #[.slice none 0 0, .slice none 0 0] 25)).drew w9.heap.size #[.slice none 0 0, .slice none 0 0] 25) := Box.new w9 _ _
        clear I9 x9
        go_region_held3 (fun x => x.rangeAt w6.heap.size 0 (bytesV S.1) ∧ Below w9.heap.size w9 x)
          (first | exact HK0.out | exact rng_next hg69 (by assumption) (belAlloc _ _) | exact rng_next hg69 (by assumption) kT | exact rng_next hg69 (by assumption) kS | exact rng_next hg69 hTT.out (belAlloc _ _) | exact rng_next hg69 hSS.out (belAlloc _ _) | exact rng_set hg69 (Nat.le_refl _) (by assumption) | exact rng_set hg69 tT (by assumption) | exact rng_set hg69 tS (by assumption))
          (first
            | (go_at_call 68; refine (text_any S _).mono ?_; rintro e wT ⟨rfl, kT⟩; rw [HST.out]; have hTT := Lib.hid (rng_next hg69 (by assumption) kT); have tT : w9.heap.size ≤ wT.heap.size := hTT.out.2.size; try (have q1 : Box wT w9.heap.size #[.slice none 0 0, .slice none 0 0] 25 := HB0.out.later kT))
            | (go_at_call 99; refine (implWriteSector_any d' _ (k : Int) ST w.heap.size w9.heap.size _ (HDS.out _ (by assumption)) hsm' HB.out.1 HB.out.2 (by omega) hcl').mono ?_; rintro e wS ⟨vS, rfl, oS, kS⟩; rw [HDF.out.1] at oS; rw [HDF.out.2]; have hSS := Lib.hid (rng_next hg69 (by assumption) kS); have tS : w9.heap.size ≤ wS.heap.size := hSS.out.2.size; obtain ⟨e1, e2, e3, e4, rfl⟩ := oS.form; (first | (have bx : Box wS w9.heap.size #[.slice none 0 0, .slice none 0 0] 25 := q1.later kS; have z0 := bx.cell 0 _ rfl; have z1 := bx.cell 1 _ rfl; have f0 := bx.loose 0; have f1 := bx.loose 1) | (have bx : Box wS wT.heap.size #[.slice none 0 0, .slice none 0 0] 25 := (Box.new wT _ _).later kS; have z0 := bx.cell 0 _ rfl; have z1 := bx.cell 1 _ rfl; have f0 := bx.loose 0; have f1 := bx.loose 1) | skip)))
        all_goals
          go_wp2_with fail
          go_meet
          first
            | exact ⟨_, e1, e2, e3, e4, rfl, rfl, tS, Box.new wS _ _, ((oS.later (belAlloc _ _)).base tT).top, hSS.out.2.alloc tS _⟩
            | exact ⟨_, e1, e2, e3, e4, rfl, rfl, tT, (bx.set 0 _).set 1 _, (((oS.base (by simp; omega)).boxStore bx 0 _).boxStore (bx.set 0 _) 1 _).top, (hSS.out.2.setCell (p := ⟨wT.heap.size, 0, none⟩) tT _).setCell (p := ⟨wT.heap.size, 1, none⟩) tT _⟩
            | exact ⟨_, e1, e2, e3, e4, rfl, rfl, Nat.le_refl _, (bx.set 0 _).set 1 _, (((oS.base tT).boxStore bx 0 _).boxStore (bx.set 0 _) 1 _).top, (hSS.out.2.setCell (p := ⟨w9.heap.size, 0, none⟩) (Nat.le_refl _) _).setCell (p := ⟨w9.heap.size, 1, none⟩) (Nat.le_refl _) _⟩
      case rest =>
        obtain ⟨g, e1, e2, e3, e4, rfl, rfl, hgle, bxc, oD, kD⟩ := hcut
        have IK := I9.later kD
        clear I9 x9 HK0 cO0 cO1 HDS hund hinf
        cases F2 with
        | false =>
          have HRN : Hid (R = none) := show R = none from by
            rw [← HR.out]
            refine wbL_stop hne (fun hw => ?_)
            rw [← HSW.out] at hw
            have := HDF.out.2
            rw [decide_eq_true hw] at this
            cases this
          have c0 := IK.inn.cell 0 (.slice aa d.sec.length ca) rfl
          have c1 := IK.inn.cell 1 (.slice ab d.cache.length cb) rfl
          clear bxc oD
          go_wp2_with fail
          refine (copyDisk_any d _ B T _ IK.was HCP.out.1 HCP.out.2.1 HCP.out.2.2).mono ?_
          rintro e wX ⟨vX, rfl, oX, kX⟩
          obtain ⟨p1, p2, r1, r2, rfl⟩ := oX.form
          have IX := IK.later kX
          have x0 := IX.res.cell 0 (.slice none 0 0) rfl
          have x1 := IX.res.cell 1 (.slice none 0 0) rfl
          have f0 := IX.res.loose 0
          have f1 := IX.res.loose 1
          have rX := (IX.res.set 0 (.slice p1 d.sec.length r1)).set 1 (.slice p2 d.cache.length r2)
          have HD : Hid (DiskR d false w (.returned (.tuple #[.agg #[.slice p1 d.sec.length r1, .slice p2 d.cache.length r2], .bool false])) ((wX.setCell ⟨w.heap.size + 1, 0, none⟩ (.slice p1 d.sec.length r1)).setCell ⟨w.heap.size + 1, 1, none⟩ (.slice p2 d.cache.length r2))) := by
            refine ⟨_, rfl, ?_, (IX.bel.setCell (p := ⟨w.heap.size + 1, 0, none⟩) (by simp) _).setCell (p := ⟨w.heap.size + 1, 1, none⟩) (by simp) _⟩
            have := ((oX.base (IK.bel.size)).boxStore IX.res 0 (.slice p1 d.sec.length r1)).boxStore (IX.res.set 0 (.slice p1 d.sec.length r1)) 1 (.slice p2 d.cache.length r2)
            simpa using this
          have q0 := rX.cell 0 (.slice p1 d.sec.length r1) rfl
          have q1 := rX.cell 1 (.slice p2 d.cache.length r2) rfl
          clear IK IX rX oX kX c0 c1
          go_wp2
          refine bodyPost_ret (v := .tuple #[.agg #[.slice p1 d.sec.length r1, .slice p2 d.cache.length r2], .bool false]) (by simp [results, Tryz.results73, go_sem, q0, q1]) rfl ?_
          rw [HRN.out]; exact HD.out
        | true =>
          have hw : wrOk d' (k : Int) ST := of_decide_eq_true HDF.out.2
          have HDK : Hid (D.ok) := show D.ok from by
            rw [← HDF.out.1, show wrD d' (k : Int) ST = ⟨d'.sec, d'.cache ++ [⟨(k : Int), ST⟩]⟩ from if_pos hw]
            exact (wrOk_iff d' _ _).2 hw
          have hkl : k + 1 ≤ 1073742000 := by have := hw.2.1.2; have := hsm'.1; omega
          have HRN : Hid (wbL D (k + 1) 0 (t'.extract n t'.size).data.toList = R) := show _ = R from by
            rw [extract_rest, ← HR.out, wbL_go hne hfr (by rw [← HSW.out]; exact hw), ← HSW.out, HDF.out.1]
            congr 1
            rw [HN2.out]
            by_cases hm : t'.size ≤ 32 - fr
            · rw [Nat.min_eq_left hm, List.drop_of_length_le (by rw [Array.length_toList]; exact Nat.le_refl _), List.drop_of_length_le (by rw [Array.length_toList]; exact hm)]
            · rw [Nat.min_eq_right (by omega)]
          have hbg : w2.heap.size ≠ g := by omega
          have hxs : (t'.extract n t'.size).size = t'.size - n := by rw [ByteArray.size_extract]; omega
          have sl : ∀ wx, (Instr.slice 9 (.string t') (some (.int .i64 (n : Int))) none none).run Tryz.prog wx = .ok (.string (t'.extract n t'.size)) wx := fun wx => by
            have := run_slice_string_from_if (P := Tryz.prog) (w := wx) 9 t' .i64 (n : Int) Tryz.underlying9
            rw [this, if_pos ⟨by omega, by omega⟩]
            congr 3
          generalize t'.extract n t'.size = t2 at sl hxs HRN
          have IN : Hid (∀ X, Below wc.heap.size wc X → WbI w (.slice aa d.sec.length ca) (.slice ab d.cache.length cb) w2.heap.size (.slice e1 D.sec.length e3) (.slice e2 D.cache.length e4) d D B T ((X.setCell ⟨w2.heap.size, 0, none⟩ (.slice e1 D.sec.length e3)).setCell ⟨w2.heap.size, 1, none⟩ (.slice e2 D.cache.length e4))) := by
            intro X hX
            have JK := IK.later hX
            have hblt := JK.lt
            have o1 := JK.out.set 0 (.slice e1 D.sec.length e3)
            refine ⟨(JK.bel.setCell (p := ⟨w2.heap.size, 0, none⟩) (by show w.heap.size ≤ w2.heap.size; omega) _).setCell (p := ⟨w2.heap.size, 1, none⟩) (by show w.heap.size ≤ w2.heap.size; omega) _, (JK.inn.other (by omega) _ _).other (by omega) _ _, (JK.res.other (by omega) _ _).other (by omega) _ _, o1.set 1 _, ?_, (JK.was.boxStore JK.out 0 _).boxStore o1 1 _, hblt⟩
            exact ((((oD.later hX).base hz9).boxStore JK.out 0 (.slice e1 D.sec.length e3)).boxStore o1 1 (.slice e2 D.cache.length e4)).top
          have bD : Below wc.heap.size wc wc.drew := (Below.refl _ _).drew
          have I1 := IN.out _ (Below.refl _ _)
          have I2 := IN.out _ bD
          have I1d := I1.later ((Below.refl _ _).drew)
          have x0 := (bxc.later bD).cell 0 (.slice e1 D.sec.length e3) rfl
          have x1 := (bxc.later bD).cell 1 (.slice e2 D.cache.length e4) rfl
          have IKd := IK.later bD
          have y0 := IKd.out.cell 0 (.slice a5 d'.sec.length c5) rfl
          have y1 := IKd.out.cell 1 (.slice a6 d'.cache.length c6) rfl
          have f0 := IKd.out.loose 0
          have f1 := IKd.out.loose 1
          have ou1 := IK.out.set 0 (.slice e1 D.sec.length e3)
          have ou2 := IKd.out.set 0 (.slice e1 D.sec.length e3)
          have n1 := ou1.cell 1 (.slice a6 d'.cache.length c6) rfl
          have n2 := ou1.loose 1
          have n3 := ou2.cell 1 (.slice a6 d'.cache.length c6) rfl
          have n4 := ou2.loose 1
          have n5 := (ou1.later (Below.refl _ _).drew).cell 1 (.slice a6 d'.cache.length c6) rfl
          have n6 := (ou1.later (Below.refl _ _).drew).loose 1
          clear ou1 ou2
          have JJ : Hid (WbI w (.slice aa d.sec.length ca) (.slice ab d.cache.length cb) w2.heap.size (.slice e1 D.sec.length e3) (.slice e2 D.cache.length e4) d D B T _ ∧ WbI w (.slice aa d.sec.length ca) (.slice ab d.cache.length cb) w2.heap.size (.slice e1 D.sec.length e3) (.slice e2 D.cache.length e4) d D B T _ ∧ WbI w (.slice aa d.sec.length ca) (.slice ab d.cache.length cb) w2.heap.size (.slice e1 D.sec.length e3) (.slice e2 D.cache.length e4) d D B T _) := ⟨I1, I2, I1d⟩
          clear IK IKd bxc oD kD IN I1 I2 I1d bD hw
          go_upto_region 12 with fail
          go_region_law (first | fail)
          all_goals
            go_wp2
            go_roundw
            case rel => exact ⟨t2, k + 1, 0, D, _, _, rfl, by go_num, rfl, by omega, hkl, by omega, ⟨(Dk.ok_small HDK.out).1, (Dk.ok_small HDK.out).2, by have := HDK.out.2.2.1; omega⟩, HRN.out, by first | exact JJ.out.1 | exact JJ.out.2.1 | exact JJ.out.2.2⟩
            case measure => simp only [szOf_string]; omega

end Go.Proofs.YtgcnebepklelpaaGreatDoor
