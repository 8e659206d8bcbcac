/- What the model's CrashDisk hands back. -/
import Derived.Test.YtmmgnpjhlmiafaaSpecFlush
import Derived.Test.YtmmgnpjhlmiafaaPlainCrash
namespace Go.Proofs.Ytmmgnpjhlmiafaa
open Go.RowKit

set_option maxRecDepth 100000 in
set_option maxHeartbeats 4000000 in
theorem specCrashDisk_any (d : Dk) (v : Value) (B T : Nat) (w : World) (h : DOwn B T w v d) (hs : d.small) (ht : ∀ s ∈ d.sec, s.size ≤ 1099511627776) (hu : ∀ x ∈ d.cache, x.text.size ≤ 1099511627776)
    (vk : Value) (ks : List Int) (hk : Rows' intE w vk ks) (hkl : ks.length ≤ 1048576) (t : Int) :
    Calls Try.prog 18 #[v, vk, .int .i64 t] w fun e w' => DiskR1 (crS d ks t) w e w' := by
  obtain ⟨ak, ck, rfl⟩ : ∃ (a : Option Addr) (c : Nat), vk = .slice a ks.length c := by
    rcases hk with ⟨e, a, c, rfl⟩ | ⟨g, o, c, rfl, _⟩
    · exact ⟨a, c, by rw [e]; rfl⟩
    · exact ⟨_, c, rfl⟩
  have HKS := Lib.hid hk
  have HDO := Lib.hid h
  obtain ⟨t1, t2, t3, t4⟩ := tmod33 t
  have hNl := tearN_le t
  obtain ⟨aa, ab, ca, cb, rfl⟩ := h.form
  obtain ⟨hx0, hx1, b0, hsz⟩ : Box ((w.alloc (.cells #[.slice aa d.sec.length ca, .slice ab d.cache.length cb] 27)).alloc (.cells #[.slice none 0 0, .slice none 0 0] 27)) w.heap.size #[.slice aa d.sec.length ca, .slice ab d.cache.length cb] 27 ∧
      Box ((w.alloc (.cells #[.slice aa d.sec.length ca, .slice ab d.cache.length cb] 27)).alloc (.cells #[.slice none 0 0, .slice none 0 0] 27)) (w.heap.size + 1) #[.slice none 0 0, .slice none 0 0] 27 ∧
      Below w.heap.size w ((w.alloc (.cells #[.slice aa d.sec.length ca, .slice ab d.cache.length cb] 27)).alloc (.cells #[.slice none 0 0, .slice none 0 0] 27)) ∧
      ((w.alloc (.cells #[.slice aa d.sec.length ca, .slice ab d.cache.length cb] 27)).alloc (.cells #[.slice none 0 0, .slice none 0 0] 27)).heap.size = w.heap.size + 2 := by
    have e1 : (w.alloc (.cells #[.slice aa d.sec.length ca, .slice ab d.cache.length cb] 27)).heap.size = w.heap.size + 1 := by simp
    have q0 := Box.new w #[.slice aa d.sec.length ca, .slice ab d.cache.length cb] 27
    have q1 := Box.new (w.alloc (.cells #[.slice aa d.sec.length ca, .slice ab d.cache.length cb] 27)) #[.slice none 0 0, .slice none 0 0] 27
    rw [e1] at q1
    exact ⟨q0.later ((Below.refl _ _).alloc (Nat.le_refl _) _), q1, ((Below.refl _ _).alloc (Nat.le_refl _) _).alloc (by simp) _, by simp⟩
  have h' := h.later b0
  have hTw : T ≤ w.heap.size := by obtain ⟨_, _, _, l1, _⟩ := h; exact l1.2.1
  go_enter Try.func18, Try.ntmps18
  go_wp2_with fail
  generalize ((w.alloc (.cells #[.slice aa d.sec.length ca, .slice ab d.cache.length cb] 27)).alloc (.cells #[.slice none 0 0, .slice none 0 0] 27)) = W at hx0 hx1 b0 hsz h' ⊢
  refine (specCopy_any d _ B T _ h' hs).mono ?_
  rintro e w2 ⟨v2, rfl, o2, k2⟩
  obtain ⟨a1, a2, q1, q2, rfl⟩ := o2.form
  have k3 : Below w2.heap.size w2 (w2.alloc (.cells #[.slice a1 d.sec.length q1, .slice a2 d.cache.length q2] 27)) := (Below.refl _ _).alloc (Nat.le_refl _) _
  have y3 := Box.new w2 #[.slice a1 d.sec.length q1, .slice a2 d.cache.length q2] 27
  have j3 := k2.trans (k3.mono k2.size)
  have o3 := o2.later k3
  have c0 := (hx0.later j3).cell 0 (.slice aa d.sec.length ca) rfl
  have c1 := (hx0.later j3).cell 1 (.slice ab d.cache.length cb) rfl
  have h3 := h'.later j3
  have s2 := k2.size
  clear h h' o2
  go_wp2_with fail
  clear c0 c1
  generalize hw3 : w2.alloc (.cells #[.slice a1 d.sec.length q1, .slice a2 d.cache.length q2] 27) = w3 at *
  have s3 : w3.heap.size = w2.heap.size + 1 := by rw [← hw3]; simp
  refine (specDiskOk_any d _ _ h3.rd hs ht hu).mono ?_
  rintro e w4 ⟨rfl, k4⟩
  have j4 := j3.trans (k4.mono j3.size)
  have x4 := hx0.later j4
  have r4 := hx1.later j4
  have y4 := y3.later k4
  have o4 := o3.later k4
  have h4 := h3.later k4
  have bF : Below w.heap.size w w4 := b0.trans (j4.mono b0.size)
  have s4 := k4.size
  have hD1 := hs.1
  have hD2 := hs.2
  clear hx0 hx1 y3 h3 o3 ht hu hs
  by_cases hok : d.ok
  · rw [decide_eq_true hok]
    have HYES := Lib.hid (show crS d ks t = ⟨crI d.sec d.cache ks (tearN t) (lastI ks d.cache.length) d.cache.length, []⟩ from if_pos hok)
    obtain ⟨va, vb, hv, l1, l2, hap⟩ := o4
    simp only [Value.agg.injEq, Array.mk.injEq, List.cons.injEq, and_true] at hv
    obtain ⟨rfl, rfl⟩ := hv
    obtain ⟨g1, rfl⟩ : ∃ g1 : Nat, a1 = some ⟨g1, 0, none⟩ := by
      rcases l1.1.own.2 with ⟨_, e⟩ | ⟨g, cap, cur, e, _⟩
      · have := hok.1; omega
      · simp only [Value.slice.injEq] at e; exact ⟨g, e.1⟩
    have hg1 : W.heap.size ≤ g1 ∧ g1 < w2.heap.size := ⟨(l1.1.own.lt g1 rfl).1, l1.2.2 g1 rfl⟩
    have hcells : ∀ x ∈ d.cache, 0 ≤ x.at_ ∧ x.at_ < d.sec.length := fun x hx => ⟨(hok.2.2.2.2 x hx).1, (hok.2.2.2.2 x hx).2.1⟩
    have X4 := Lib.hid x4
    have R4 := Lib.hid r4
    have Y4 := Lib.hid y4
    have HC := Lib.hid hcells
    clear h4 x4 r4 y4 hcells l2 hap hk
    by_cases hneg : t.tmod 33 < 0
    · have e7 := t2 hneg
      have e7a : t.tmod 33 + 32 + 1 = (tearN t : Int) := by omega
      have E7 := Lib.hid e7
      clear t1 t2
      have x1 := X4.out.cell 1 (.slice ab d.cache.length cb) rfl
      go_wp2
      go_loopw [8, 9] (fun lv iv wr => ∃ i : Nat, i ≤ d.cache.length ∧ i ≤ ks.length ∧ iv = .int .i64 (i : Int) ∧ lv = .int .i64 (lastI ks i) ∧ wr = w4) (fun _ iv _ => d.cache.length - (intOf iv).toNat)
      case atStart => exact ⟨0, by omega, by omega, rfl, rfl, rfl⟩
      case round =>
        obtain ⟨i, hi, hi2, rfl, rfl, hw⟩ := hrel
        have hw' := hw.symm
        clear hw
        subst hw'
        by_cases hlt : i < d.cache.length ∧ i < ks.length
        · obtain ⟨gk, ok, rfl, hck⟩ := HKS.out.at i hlt.2
          have e0 := hck _ bF 0 _ rfl
          rw [show intE.sz = 1 from rfl, Nat.mul_one, Nat.add_zero] at e0
          have hod := oddAt_in hlt.2
          clear hck
          generalize ks[i] = kk at *
          have hk1 : (i : Int) < (ks.length : Int) := by omega
          have hc1 : (i : Int) < (d.cache.length : Int) := by omega
          have hi0 : (0 : Int) ≤ (i : Int) := by omega
          cases ho : oddAt ks i with
          | true =>
            have hq : (kk.tmod 2 != 0) = true := by rw [← hod]; exact ho
            have HL := Lib.hid (lastI_yes ho)
            clear hod ho
            go_wp2
            go_roundw
            case rel => exact ⟨i + 1, by omega, by omega, by go_num, by rw [HL.out], trivial⟩
            case measure => simp [intOf]; omega
          | false =>
            have hq : (kk.tmod 2 != 0) = false := by rw [← hod]; exact ho
            have HL := Lib.hid (lastI_no ho)
            clear hod ho
            go_wp2
            go_roundw
            case rel => exact ⟨i + 1, by omega, by omega, by go_num, by rw [HL.out], trivial⟩
            case measure => simp [intOf]; omega
        · have hla : lastI ks i = lastI ks d.cache.length := lastI_end hi (fun j h1 h2 => by rcases Nat.lt_or_ge i ks.length with h | h; exact absurd ⟨by omega, h⟩ hlt; exact oddAt_out (by omega))
          rw [hla]
          have hlb := lastI_lt ks d.cache.length
          have HMX : Hid (∀ j : Nat, j < d.cache.length → lastI ks d.cache.length < (j : Int) → oddAt ks j = false) := fun j h1 h2 => lastI_max h1 h2
          clear hla
          generalize lastI ks d.cache.length = last at *
          obtain ⟨hl0, hl1, hl2⟩ := hlb
          have L1 := Lib.hid l1
          clear l1
          go_wp2
          all_goals
            go_loopw [11] (fun iv wr => ∃ i : Nat, (i : Int) ≤ last + 1 ∧ iv = .int .i64 (i : Int) ∧ RBuf strE W.heap.size wr wr (.slice (some ⟨g1, 0, none⟩) d.sec.length q1) (crI d.sec d.cache ks (tearN t) last i) ∧ Kept W.heap.size w2.heap.size w4 wr) (fun iv _ => (last + 1 - intOf iv).toNat)
            case atStart => exact ⟨0, by omega, rfl, L1.out.1, Kept.of_below (Below.refl _ _) _ _⟩
            case round =>
              obtain ⟨i, hi, rfl, hbr, hkp⟩ := hrel
              have belr : Below w.heap.size w wr := hkp.below bF (by omega) bF.size
              have x5 := X4.out.kept hkp (.inl (by omega))
              have r5 := R4.out.kept hkp (.inl (by omega))
              have y5 := Y4.out.kept hkp (.inr (Nat.le_refl _))
              by_cases hlt2 : (i : Int) ≤ last
              · have hic : i < d.cache.length := by omega
                have hik : i < ks.length := by omega
                obtain ⟨gk, ok, rfl, hck⟩ := HKS.out.at i hik
                have e0 := hck _ belr 0 _ rfl
                rw [show intE.sz = 1 from rfl, Nat.mul_one, Nat.add_zero] at e0
                have hod := oddAt_in hik
                clear hck
                generalize ks[i] = kk at *
                have hk1 : (i : Int) < (ks.length : Int) := by omega
                have hi0 : (0 : Int) ≤ (i : Int) := by omega
                cases ho : oddAt ks i with
                | false =>
                  have hq : (kk.tmod 2 == 0) = true := by rw [ho] at hod; simpa using hod
                  have HN := Lib.hid (crI_no (sec := d.sec) (c := d.cache) (n := tearN t) (last := last) ho)
                  have HBR := Lib.hid hbr
                  have HKP := Lib.hid hkp
                  clear hod ho x5 r5 y5 hbr hkp
                  go_wp2
                  go_roundw
                  case rel => exact ⟨i + 1, by omega, by go_num, by rw [HN.out]; exact HBR.out, HKP.out⟩
                  case measure => simp [intOf]; omega
                | true =>
                  have hq : (kk.tmod 2 == 0) = false := by rw [ho] at hod; simpa using hod
                  have HY := Lib.hid (crI_yes (sec := d.sec) (ks := ks) (n := tearN t) (last := last) hic ho)
                  obtain ⟨_, _, hv5, _, l5, _⟩ := HDO.out.later belr
                  simp only [Value.agg.injEq, Array.mk.injEq, List.cons.injEq, and_true] at hv5
                  obtain ⟨_, rfl⟩ := hv5
                  obtain ⟨g, off, rfl, hcl⟩ := l5.rows.at i hic
                  have d0 : wr.cell? ⟨g, off + i * 2, none⟩ = some (.int .i64 d.cache[i].at_) := hcl wr (Below.refl _ _) 0 _ rfl
                  have d1 : wr.cell? ⟨g, off + i * 2 + 1, none⟩ = some (.string d.cache[i].text) := hcl wr (Below.refl _ _) 1 _ rfl
                  obtain ⟨hx1, hx2⟩ := HC.out _ (List.getElem_mem hic)
                  have hx3 := (hok.2.2.2.2 _ (List.getElem_mem hic)).2.2
                  have hsz32 := crI_size hok ks (tearN t) hNl last i (by omega)
                  have hCl := crI_length d.sec d.cache ks (tearN t) last i
                  clear hcl l5
                  generalize d.cache[i] = x at *
                  obtain ⟨na, tx⟩ := x
                  simp only at d0 d1 hx1 hx2 hx3 HY
                  obtain ⟨k, rfl⟩ := Int.eq_ofNat_of_zero_le hx1
                  rw [Int.toNat_natCast] at HY
                  have hk : k < (crI d.sec d.cache ks (tearN t) last i).length := by omega
                  have hat := List.getElem?_eq_getElem hk
                  have h32o := hsz32 _ (List.getElem_mem hk)
                  rw [List.getD_eq_getElem?_getD, hat, Option.getD_some] at HY
                  rw [← hCl] at hbr
                  have cs : wr.cell? ⟨g1, k, none⟩ = some (.string (crI d.sec d.cache ks (tearN t) last i)[k]) := by
                    have := hbr.cell rfl k _ hat 0 _ rfl
                    rw [show strE.sz = 1 from rfl, Nat.mul_one, Nat.add_zero] at this
                    exact this
                  have fs := hbr.loose k
                  have FIN : Hid (∀ v : ByteArray, RBuf strE W.heap.size ((wr.alloc (.cells #[.int .i64 (k : Int), .string tx] 49)).setCell ⟨g1, k, none⟩ (.string v)) ((wr.alloc (.cells #[.int .i64 (k : Int), .string tx] 49)).setCell ⟨g1, k, none⟩ (.string v)) (.slice (some ⟨g1, 0, none⟩) d.sec.length q1) ((crI d.sec d.cache ks (tearN t) last i).set k v) ∧ Kept W.heap.size w2.heap.size w4 ((wr.alloc (.cells #[.int .i64 (k : Int), .string tx] 49)).setCell ⟨g1, k, none⟩ (.string v))) := by
                    intro v
                    have bA : Below wr.heap.size wr (wr.alloc (.cells #[.int .i64 (k : Int), .string tx] 49)) := (Below.refl _ _).alloc (Nat.le_refl _) _
                    have q := ((hbr.later bA).here).stored k _ v hat 0 (by decide) (.string v) rfl
                    rw [show strE.sz = 1 from rfl, Nat.mul_one, Nat.add_zero, hCl] at q
                    exact ⟨q.here, (hkp.trans (Kept.of_below bA _ _)).trans (Kept.of_grown (stored_grown _ g1 k (.string v)) (fun j hj => by have : g1 = j := Option.some.inj hj; omega))⟩
                  have n0 := y5.cell 0 (.slice (some ⟨g1, 0, none⟩) d.sec.length q1) rfl
                  have m1 := x5.cell 1 (.slice (some ⟨g, off, none⟩) d.cache.length cb) rfl
                  have bA0 : Below wr.heap.size wr (wr.alloc (.cells #[.int .i64 (k : Int), .string tx] 49)) := (Below.refl _ _).alloc (Nat.le_refl _) _
                  have nX := (y5.later bA0).cell 0 (.slice (some ⟨g1, 0, none⟩) d.sec.length q1) rfl
                  have bX := Box.new wr #[.int .i64 (k : Int), .string tx] 49
                  have bX0 := bX.cell 0 (.int .i64 (k : Int)) rfl
                  have bX1 := bX.cell 1 (.string tx) rfl
                  have csX := (bA0.cell (p := ⟨g1, k, none⟩) (World.block_lt_of_cell? _ _ cs)).trans cs
                  have fsX := (bA0.frozen (p := ⟨g1, k, none⟩) (World.block_lt_of_cell? _ _ cs)).trans fs
                  have hk0 : (0 : Int) ≤ (k : Int) := by omega
                  have hc1 : (i : Int) < (d.cache.length : Int) := by omega
                  generalize (crI d.sec d.cache ks (tearN t) last i)[k] = old at *
                  have hn0 : (0 : Int) ≤ (tearN t : Int) := by omega
                  have hn1 : (tearN t : Int) ≤ 32 := by omega
                  clear hbr hkp hat x5 r5 y5 hsz32 hok belr bX
                  by_cases hla2 : (i : Int) = last
                  · have hq2 : ((i : Int) == last) = true := by simp [hla2]
                    rw [if_pos hla2] at HY
                    clear hla2
                    go_wp2
                    generalize wr.alloc (.cells #[.int .i64 (k : Int), .string tx] 49) = X at *
                    go_region
                    all_goals
                      obtain ⟨fR, fK⟩ := FIN.out (tx.extract 0 (tearN t) ++ old.extract (tearN t) 32)
                      have FR := Lib.hid fR.drew'
                      have FK := Lib.hid (fK.trans (Kept.of_below ((Below.refl _ _).drew) _ _))
                      clear fR fK FIN
                      go_wp2
                      go_roundw
                      case rel => exact ⟨i + 1, by omega, by go_num, by rw [HY.out]; exact FR.out, FK.out⟩
                      case measure => simp [intOf]; omega
                  · have hq2 : ((i : Int) == last) = false := by simp [hla2]
                    rw [if_neg hla2] at HY
                    have hll : (i : Int) < last := by omega
                    obtain ⟨fR, fK⟩ := FIN.out tx
                    have FR := Lib.hid fR
                    have FK := Lib.hid fK
                    clear fR fK FIN hla2
                    go_wp2
                    go_roundw
                    case rel => exact ⟨i + 1, by omega, by go_num, by rw [HY.out]; exact FR.out, FK.out⟩
                    case measure => simp [intOf]; omega
              · have hce : crI d.sec d.cache ks (tearN t) last i = crI d.sec d.cache ks (tearN t) last d.cache.length := crI_end (by omega) (fun j h1 h2 => HMX.out j h2 (by omega))
                rw [hce] at hbr
                clear hce
                have x1 := x5.cell 1 (.slice ab d.cache.length cb) rfl
                have kA : Below wr.heap.size wr (wr.alloc (.cells #[] 49)) := (Below.refl _ _).alloc (Nat.le_refl _) _
                have y6 := y5.later kA
                have r6 := r5.later kA
                have m0 := y6.cell 0 (.slice (some ⟨g1, 0, none⟩) d.sec.length q1) rfl
                have m1 := y6.cell 1 (.slice a2 d.cache.length q2) rfl
                have n1 := y6.loose 1
                have r0 := r6.cell 0 (.slice none 0 0) rfl
                have r1 := r6.cell 1 (.slice none 0 0) rfl
                have f0 := r6.loose 0
                have f1 := r6.loose 1
                have sA : (wr.alloc (.cells #[] 49)).heap.size = wr.heap.size + 1 := by simp
                have hfl := crI_length d.sec d.cache ks (tearN t) last d.cache.length
                have hwr : w4.heap.size ≤ wr.heap.size := hkp.size
                have LS := Lib.hid (show LOwn strE W.heap.size w2.heap.size (wr.alloc (.cells #[] 49)) (.slice (some ⟨g1, 0, none⟩) d.sec.length q1) (crI d.sec d.cache ks (tearN t) last d.cache.length) from LOwn.later ⟨hbr, by omega, fun j hj => by have : g1 = j := Option.some.inj hj; omega⟩ kA)
                have LC := Lib.hid (show LOwn wrE wr.heap.size (wr.alloc (.cells #[] 49)).heap.size (wr.alloc (.cells #[] 49)) (.slice (some ⟨wr.heap.size, 0, none⟩) 0 0) [] from (RBuf.fresh wrE wr).lown)
                have BA := Lib.hid ((hkp.below bF (by omega) bF.size).alloc (Nat.le_trans bF.size hkp.size) (.cells #[] 49))
                clear x5 r5 y5 y6 r6 hbr hkp kA
                go_wp2
                have q1' := ((LS.out.storeHi w2.heap.size 1 (.slice (some ⟨wr.heap.size, 0, none⟩) 0 0) (Nat.le_refl _)).store (w.heap.size + 1) 0 (.slice (some ⟨g1, 0, none⟩) d.sec.length q1) (by omega)).store (w.heap.size + 1) 1 (.slice (some ⟨wr.heap.size, 0, none⟩) 0 0) (by omega)
                have q2' := ((LC.out.store w2.heap.size 1 (.slice (some ⟨wr.heap.size, 0, none⟩) 0 0) (by omega)).store (w.heap.size + 1) 0 (.slice (some ⟨g1, 0, none⟩) d.sec.length q1) (by omega)).store (w.heap.size + 1) 1 (.slice (some ⟨wr.heap.size, 0, none⟩) 0 0) (by omega)
                have bE := ((BA.out.setCell (p := ⟨w2.heap.size, 1, none⟩) (by simp; omega) (.slice (some ⟨wr.heap.size, 0, none⟩) 0 0)).setCell (p := ⟨w.heap.size + 1, 0, none⟩) (by simp) (.slice (some ⟨g1, 0, none⟩) d.sec.length q1)).setCell (p := ⟨w.heap.size + 1, 1, none⟩) (by simp) (.slice (some ⟨wr.heap.size, 0, none⟩) 0 0)
                refine bodyPost_ret (v := .agg #[.slice (some ⟨g1, 0, none⟩) d.sec.length q1, .slice (some ⟨wr.heap.size, 0, none⟩) 0 0]) (by simp [results, Try.results18, go_sem, r0, r1]) rfl ?_
                rw [HYES.out]
                refine ⟨_, rfl, ⟨_, _, rfl, (q1'.deeper (by omega)).wider (by simp; omega) (Nat.le_refl _), (q2'.deeper (by omega)).wider (by simp) (Nat.le_refl _), .inr fun e => ?_⟩, bE⟩
                have : g1 = wr.heap.size := Option.some.inj e
                omega
    · have e7 := t1 (by omega)
      have E7 := Lib.hid e7
      clear t1 t2
      have x1 := X4.out.cell 1 (.slice ab d.cache.length cb) rfl
      go_wp2
      go_loopw [8, 9] (fun lv iv wr => ∃ i : Nat, i ≤ d.cache.length ∧ i ≤ ks.length ∧ iv = .int .i64 (i : Int) ∧ lv = .int .i64 (lastI ks i) ∧ wr = w4) (fun _ iv _ => d.cache.length - (intOf iv).toNat)
      case atStart => exact ⟨0, by omega, by omega, rfl, rfl, rfl⟩
      case round =>
        obtain ⟨i, hi, hi2, rfl, rfl, hw⟩ := hrel
        have hw' := hw.symm
        clear hw
        subst hw'
        by_cases hlt : i < d.cache.length ∧ i < ks.length
        · obtain ⟨gk, ok, rfl, hck⟩ := HKS.out.at i hlt.2
          have e0 := hck _ bF 0 _ rfl
          rw [show intE.sz = 1 from rfl, Nat.mul_one, Nat.add_zero] at e0
          have hod := oddAt_in hlt.2
          clear hck
          generalize ks[i] = kk at *
          have hk1 : (i : Int) < (ks.length : Int) := by omega
          have hc1 : (i : Int) < (d.cache.length : Int) := by omega
          have hi0 : (0 : Int) ≤ (i : Int) := by omega
          cases ho : oddAt ks i with
          | true =>
            have hq : (kk.tmod 2 != 0) = true := by rw [← hod]; exact ho
            have HL := Lib.hid (lastI_yes ho)
            clear hod ho
            go_wp2
            go_roundw
            case rel => exact ⟨i + 1, by omega, by omega, by go_num, by rw [HL.out], trivial⟩
            case measure => simp [intOf]; omega
          | false =>
            have hq : (kk.tmod 2 != 0) = false := by rw [← hod]; exact ho
            have HL := Lib.hid (lastI_no ho)
            clear hod ho
            go_wp2
            go_roundw
            case rel => exact ⟨i + 1, by omega, by omega, by go_num, by rw [HL.out], trivial⟩
            case measure => simp [intOf]; omega
        · have hla : lastI ks i = lastI ks d.cache.length := lastI_end hi (fun j h1 h2 => by rcases Nat.lt_or_ge i ks.length with h | h; exact absurd ⟨by omega, h⟩ hlt; exact oddAt_out (by omega))
          rw [hla]
          have hlb := lastI_lt ks d.cache.length
          have HMX : Hid (∀ j : Nat, j < d.cache.length → lastI ks d.cache.length < (j : Int) → oddAt ks j = false) := fun j h1 h2 => lastI_max h1 h2
          clear hla
          generalize lastI ks d.cache.length = last at *
          obtain ⟨hl0, hl1, hl2⟩ := hlb
          have L1 := Lib.hid l1
          clear l1
          go_wp2
          all_goals
            go_loopw [11] (fun iv wr => ∃ i : Nat, (i : Int) ≤ last + 1 ∧ iv = .int .i64 (i : Int) ∧ RBuf strE W.heap.size wr wr (.slice (some ⟨g1, 0, none⟩) d.sec.length q1) (crI d.sec d.cache ks (tearN t) last i) ∧ Kept W.heap.size w2.heap.size w4 wr) (fun iv _ => (last + 1 - intOf iv).toNat)
            case atStart => exact ⟨0, by omega, rfl, L1.out.1, Kept.of_below (Below.refl _ _) _ _⟩
            case round =>
              obtain ⟨i, hi, rfl, hbr, hkp⟩ := hrel
              have belr : Below w.heap.size w wr := hkp.below bF (by omega) bF.size
              have x5 := X4.out.kept hkp (.inl (by omega))
              have r5 := R4.out.kept hkp (.inl (by omega))
              have y5 := Y4.out.kept hkp (.inr (Nat.le_refl _))
              by_cases hlt2 : (i : Int) ≤ last
              · have hic : i < d.cache.length := by omega
                have hik : i < ks.length := by omega
                obtain ⟨gk, ok, rfl, hck⟩ := HKS.out.at i hik
                have e0 := hck _ belr 0 _ rfl
                rw [show intE.sz = 1 from rfl, Nat.mul_one, Nat.add_zero] at e0
                have hod := oddAt_in hik
                clear hck
                generalize ks[i] = kk at *
                have hk1 : (i : Int) < (ks.length : Int) := by omega
                have hi0 : (0 : Int) ≤ (i : Int) := by omega
                cases ho : oddAt ks i with
                | false =>
                  have hq : (kk.tmod 2 == 0) = true := by rw [ho] at hod; simpa using hod
                  have HN := Lib.hid (crI_no (sec := d.sec) (c := d.cache) (n := tearN t) (last := last) ho)
                  have HBR := Lib.hid hbr
                  have HKP := Lib.hid hkp
                  clear hod ho x5 r5 y5 hbr hkp
                  go_wp2
                  go_roundw
                  case rel => exact ⟨i + 1, by omega, by go_num, by rw [HN.out]; exact HBR.out, HKP.out⟩
                  case measure => simp [intOf]; omega
                | true =>
                  have hq : (kk.tmod 2 == 0) = false := by rw [ho] at hod; simpa using hod
                  have HY := Lib.hid (crI_yes (sec := d.sec) (ks := ks) (n := tearN t) (last := last) hic ho)
                  obtain ⟨_, _, hv5, _, l5, _⟩ := HDO.out.later belr
                  simp only [Value.agg.injEq, Array.mk.injEq, List.cons.injEq, and_true] at hv5
                  obtain ⟨_, rfl⟩ := hv5
                  obtain ⟨g, off, rfl, hcl⟩ := l5.rows.at i hic
                  have d0 : wr.cell? ⟨g, off + i * 2, none⟩ = some (.int .i64 d.cache[i].at_) := hcl wr (Below.refl _ _) 0 _ rfl
                  have d1 : wr.cell? ⟨g, off + i * 2 + 1, none⟩ = some (.string d.cache[i].text) := hcl wr (Below.refl _ _) 1 _ rfl
                  obtain ⟨hx1, hx2⟩ := HC.out _ (List.getElem_mem hic)
                  have hx3 := (hok.2.2.2.2 _ (List.getElem_mem hic)).2.2
                  have hsz32 := crI_size hok ks (tearN t) hNl last i (by omega)
                  have hCl := crI_length d.sec d.cache ks (tearN t) last i
                  clear hcl l5
                  generalize d.cache[i] = x at *
                  obtain ⟨na, tx⟩ := x
                  simp only at d0 d1 hx1 hx2 hx3 HY
                  obtain ⟨k, rfl⟩ := Int.eq_ofNat_of_zero_le hx1
                  rw [Int.toNat_natCast] at HY
                  have hk : k < (crI d.sec d.cache ks (tearN t) last i).length := by omega
                  have hat := List.getElem?_eq_getElem hk
                  have h32o := hsz32 _ (List.getElem_mem hk)
                  rw [List.getD_eq_getElem?_getD, hat, Option.getD_some] at HY
                  rw [← hCl] at hbr
                  have cs : wr.cell? ⟨g1, k, none⟩ = some (.string (crI d.sec d.cache ks (tearN t) last i)[k]) := by
                    have := hbr.cell rfl k _ hat 0 _ rfl
                    rw [show strE.sz = 1 from rfl, Nat.mul_one, Nat.add_zero] at this
                    exact this
                  have fs := hbr.loose k
                  have FIN : Hid (∀ v : ByteArray, RBuf strE W.heap.size ((wr.alloc (.cells #[.int .i64 (k : Int), .string tx] 49)).setCell ⟨g1, k, none⟩ (.string v)) ((wr.alloc (.cells #[.int .i64 (k : Int), .string tx] 49)).setCell ⟨g1, k, none⟩ (.string v)) (.slice (some ⟨g1, 0, none⟩) d.sec.length q1) ((crI d.sec d.cache ks (tearN t) last i).set k v) ∧ Kept W.heap.size w2.heap.size w4 ((wr.alloc (.cells #[.int .i64 (k : Int), .string tx] 49)).setCell ⟨g1, k, none⟩ (.string v))) := by
                    intro v
                    have bA : Below wr.heap.size wr (wr.alloc (.cells #[.int .i64 (k : Int), .string tx] 49)) := (Below.refl _ _).alloc (Nat.le_refl _) _
                    have q := ((hbr.later bA).here).stored k _ v hat 0 (by decide) (.string v) rfl
                    rw [show strE.sz = 1 from rfl, Nat.mul_one, Nat.add_zero, hCl] at q
                    exact ⟨q.here, (hkp.trans (Kept.of_below bA _ _)).trans (Kept.of_grown (stored_grown _ g1 k (.string v)) (fun j hj => by have : g1 = j := Option.some.inj hj; omega))⟩
                  have n0 := y5.cell 0 (.slice (some ⟨g1, 0, none⟩) d.sec.length q1) rfl
                  have m1 := x5.cell 1 (.slice (some ⟨g, off, none⟩) d.cache.length cb) rfl
                  have bA0 : Below wr.heap.size wr (wr.alloc (.cells #[.int .i64 (k : Int), .string tx] 49)) := (Below.refl _ _).alloc (Nat.le_refl _) _
                  have nX := (y5.later bA0).cell 0 (.slice (some ⟨g1, 0, none⟩) d.sec.length q1) rfl
                  have bX := Box.new wr #[.int .i64 (k : Int), .string tx] 49
                  have bX0 := bX.cell 0 (.int .i64 (k : Int)) rfl
                  have bX1 := bX.cell 1 (.string tx) rfl
                  have csX := (bA0.cell (p := ⟨g1, k, none⟩) (World.block_lt_of_cell? _ _ cs)).trans cs
                  have fsX := (bA0.frozen (p := ⟨g1, k, none⟩) (World.block_lt_of_cell? _ _ cs)).trans fs
                  have hk0 : (0 : Int) ≤ (k : Int) := by omega
                  have hc1 : (i : Int) < (d.cache.length : Int) := by omega
                  generalize (crI d.sec d.cache ks (tearN t) last i)[k] = old at *
                  have hn0 : (0 : Int) ≤ (tearN t : Int) := by omega
                  have hn1 : (tearN t : Int) ≤ 32 := by omega
                  clear hbr hkp hat x5 r5 y5 hsz32 hok belr bX
                  by_cases hla2 : (i : Int) = last
                  · have hq2 : ((i : Int) == last) = true := by simp [hla2]
                    rw [if_pos hla2] at HY
                    clear hla2
                    go_wp2
                    generalize wr.alloc (.cells #[.int .i64 (k : Int), .string tx] 49) = X at *
                    go_region
                    all_goals
                      obtain ⟨fR, fK⟩ := FIN.out (tx.extract 0 (tearN t) ++ old.extract (tearN t) 32)
                      have FR := Lib.hid fR.drew'
                      have FK := Lib.hid (fK.trans (Kept.of_below ((Below.refl _ _).drew) _ _))
                      clear fR fK FIN
                      go_wp2
                      go_roundw
                      case rel => exact ⟨i + 1, by omega, by go_num, by rw [HY.out]; exact FR.out, FK.out⟩
                      case measure => simp [intOf]; omega
                  · have hq2 : ((i : Int) == last) = false := by simp [hla2]
                    rw [if_neg hla2] at HY
                    have hll : (i : Int) < last := by omega
                    obtain ⟨fR, fK⟩ := FIN.out tx
                    have FR := Lib.hid fR
                    have FK := Lib.hid fK
                    clear fR fK FIN hla2
                    go_wp2
                    go_roundw
                    case rel => exact ⟨i + 1, by omega, by go_num, by rw [HY.out]; exact FR.out, FK.out⟩
                    case measure => simp [intOf]; omega
              · have hce : crI d.sec d.cache ks (tearN t) last i = crI d.sec d.cache ks (tearN t) last d.cache.length := crI_end (by omega) (fun j h1 h2 => HMX.out j h2 (by omega))
                rw [hce] at hbr
                clear hce
                have x1 := x5.cell 1 (.slice ab d.cache.length cb) rfl
                have kA : Below wr.heap.size wr (wr.alloc (.cells #[] 49)) := (Below.refl _ _).alloc (Nat.le_refl _) _
                have y6 := y5.later kA
                have r6 := r5.later kA
                have m0 := y6.cell 0 (.slice (some ⟨g1, 0, none⟩) d.sec.length q1) rfl
                have m1 := y6.cell 1 (.slice a2 d.cache.length q2) rfl
                have n1 := y6.loose 1
                have r0 := r6.cell 0 (.slice none 0 0) rfl
                have r1 := r6.cell 1 (.slice none 0 0) rfl
                have f0 := r6.loose 0
                have f1 := r6.loose 1
                have sA : (wr.alloc (.cells #[] 49)).heap.size = wr.heap.size + 1 := by simp
                have hfl := crI_length d.sec d.cache ks (tearN t) last d.cache.length
                have hwr : w4.heap.size ≤ wr.heap.size := hkp.size
                have LS := Lib.hid (show LOwn strE W.heap.size w2.heap.size (wr.alloc (.cells #[] 49)) (.slice (some ⟨g1, 0, none⟩) d.sec.length q1) (crI d.sec d.cache ks (tearN t) last d.cache.length) from LOwn.later ⟨hbr, by omega, fun j hj => by have : g1 = j := Option.some.inj hj; omega⟩ kA)
                have LC := Lib.hid (show LOwn wrE wr.heap.size (wr.alloc (.cells #[] 49)).heap.size (wr.alloc (.cells #[] 49)) (.slice (some ⟨wr.heap.size, 0, none⟩) 0 0) [] from (RBuf.fresh wrE wr).lown)
                have BA := Lib.hid ((hkp.below bF (by omega) bF.size).alloc (Nat.le_trans bF.size hkp.size) (.cells #[] 49))
                clear x5 r5 y5 y6 r6 hbr hkp kA
                go_wp2
                have q1' := ((LS.out.storeHi w2.heap.size 1 (.slice (some ⟨wr.heap.size, 0, none⟩) 0 0) (Nat.le_refl _)).store (w.heap.size + 1) 0 (.slice (some ⟨g1, 0, none⟩) d.sec.length q1) (by omega)).store (w.heap.size + 1) 1 (.slice (some ⟨wr.heap.size, 0, none⟩) 0 0) (by omega)
                have q2' := ((LC.out.store w2.heap.size 1 (.slice (some ⟨wr.heap.size, 0, none⟩) 0 0) (by omega)).store (w.heap.size + 1) 0 (.slice (some ⟨g1, 0, none⟩) d.sec.length q1) (by omega)).store (w.heap.size + 1) 1 (.slice (some ⟨wr.heap.size, 0, none⟩) 0 0) (by omega)
                have bE := ((BA.out.setCell (p := ⟨w2.heap.size, 1, none⟩) (by simp; omega) (.slice (some ⟨wr.heap.size, 0, none⟩) 0 0)).setCell (p := ⟨w.heap.size + 1, 0, none⟩) (by simp) (.slice (some ⟨g1, 0, none⟩) d.sec.length q1)).setCell (p := ⟨w.heap.size + 1, 1, none⟩) (by simp) (.slice (some ⟨wr.heap.size, 0, none⟩) 0 0)
                refine bodyPost_ret (v := .agg #[.slice (some ⟨g1, 0, none⟩) d.sec.length q1, .slice (some ⟨wr.heap.size, 0, none⟩) 0 0]) (by simp [results, Try.results18, go_sem, r0, r1]) rfl ?_
                rw [HYES.out]
                refine ⟨_, rfl, ⟨_, _, rfl, (q1'.deeper (by omega)).wider (by simp; omega) (Nat.le_refl _), (q2'.deeper (by omega)).wider (by simp) (Nat.le_refl _), .inr fun e => ?_⟩, bE⟩
                have : g1 = wr.heap.size := Option.some.inj e
                omega
  · rw [decide_eq_false hok]
    have HNO := Lib.hid (show crS d ks t = d from if_neg hok)
    have r0 := r4.cell 0 (.slice none 0 0) rfl
    have r1 := r4.cell 1 (.slice none 0 0) rfl
    have f0 := r4.loose 0
    have f1 := r4.loose 1
    have m0 := y4.cell 0 (.slice a1 d.sec.length q1) rfl
    have m1 := y4.cell 1 (.slice a2 d.cache.length q2) rfl
    clear x4 r4 y4 h4
    go_wp2
    refine bodyPost_ret (v := .agg #[.slice a1 d.sec.length q1, .slice a2 d.cache.length q2]) (by simp [results, Try.results18, go_sem, r0, r1]) rfl ?_
    rw [HNO.out]
    exact ⟨_, rfl, ((o4.store (w.heap.size + 1) 0 (.slice a1 d.sec.length q1) (by omega)).store (w.heap.size + 1) 1 (.slice a2 d.cache.length q2) (by omega)).widen (by omega) (by simp; omega) (Nat.le_refl _), (bF.setCell (p := ⟨w.heap.size + 1, 0, none⟩) (by simp) _).setCell (p := ⟨w.heap.size + 1, 1, none⟩) (by simp) _⟩

end Go.Proofs.Ytmmgnpjhlmiafaa
