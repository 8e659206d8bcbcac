/- What the program's CrashDisk hands back. -/
import Derived.Test.YtmmgnpjhlmiafaaLanded
import Derived.Test.YtmmgnpjhlmiafaaKept
import Derived.Deep.DeepCutAuto
namespace Go.Proofs.Ytmmgnpjhlmiafaa
open Go.RowKit

/-- How many bytes of the last one. -/
def tearN (t : Int) : Nat := (t % 33).toNat
theorem tearN_le (t : Int) : tearN t ≤ 32 := by unfold tearN; omega
/-- The disk behind. -/
def crD (d : Dk) (ks : List Int) (t : Int) : Dk := landD d (kptI d.cache ks d.cache.length) (tearN t)
theorem crD_small {d : Dk} {ks : List Int} {t : Int} (h : d.small) (hc : d.count ≤ 4000000) : (crD d ks t).small ∧ (crD d ks t).count ≤ 4000010 := by
  unfold crD landD
  unfold Dk.count at hc
  split
  · refine ⟨⟨?_, by show (0 : Nat) ≤ _; omega⟩, ?_⟩
    · show ((landI (d.sec.map secOf) _ _ _).map Sec.str).length ≤ _; rw [List.length_map, landI_length, List.length_map]; exact h.1
    · show ((landI (d.sec.map secOf) _ _ _).map Sec.str).length + 2 * 0 ≤ _; rw [List.length_map, landI_length, List.length_map]; omega
  · exact ⟨h, by unfold Dk.count; omega⟩

theorem tmod33 (t : Int) : (0 ≤ t.tmod 33 → t.tmod 33 = (tearN t : Int)) ∧ (t.tmod 33 < 0 → t.tmod 33 + 33 = (tearN t : Int)) ∧ -33 < t.tmod 33 ∧ t.tmod 33 < 33 := by
  unfold tearN
  by_cases h : 0 ≤ t
  · rw [Int.tmod_eq_emod_of_nonneg h]; omega
  · have e : t.tmod 33 = -((-t) % 33) := by
      have h2 : (-(-t)).tmod 33 = -((-t).tmod 33) := Int.neg_tmod _ _
      rw [Int.neg_neg] at h2
      rw [h2, Int.tmod_eq_emod_of_nonneg (by omega)]
    rw [e]; omega

set_option maxRecDepth 100000 in
set_option maxHeartbeats 4000000 in
theorem implCrashDisk_any (d : Dk) (v : Value) (B T : Nat) (w : World) (h : DOwn B T w v d) (hs : d.small) (hc : d.cache.length ≤ 1048576) (ht : ∀ s ∈ d.sec, s.size ≤ 1099511627776) (hu : ∀ x ∈ d.cache, x.text.size ≤ 1099511627776)
    (vk : Value) (ks : List Int) (hk : Rows' intE w vk ks) (hkl : ks.length ≤ 1048576) (t : Int) :
    Calls Try.prog 14 #[v, vk, .int .i64 t] w fun e w' => DiskR1 (crD d ks t) w e w' := by
  obtain ⟨aa, ab, ca, cb, rfl⟩ := h.form
  obtain ⟨ak, ck, rfl⟩ : ∃ (a : Option Addr) (c : Nat), vk = .slice a ks.length c := by
    rcases hk with ⟨e, a, c, rfl⟩ | ⟨g, o, c, rfl, _⟩
    · exact ⟨a, c, by rw [e]; rfl⟩
    · exact ⟨_, c, rfl⟩
  obtain ⟨hx0, hx1, b0, hsz⟩ := two_boxes w #[.slice aa d.sec.length ca, .slice ab d.cache.length cb] #[.slice none 0 0, .slice none 0 0] 27 27
  have hNl := tearN_le t
  obtain ⟨t1, t2, t3, t4⟩ := tmod33 t
  have h' := h.later b0
  have hk' := hk.later b0
  obtain ⟨W, hW⟩ : ∃ W, ((w.alloc (.cells #[.slice aa d.sec.length ca, .slice ab d.cache.length cb] 27)).alloc (.cells #[.slice none 0 0, .slice none 0 0] 27)) = W := ⟨_, rfl⟩
  rw [hW] at hx0 hx1 b0 hsz h' hk'
  have hrw : Rows' wrE W (.slice ab d.cache.length cb) d.cache := by
    obtain ⟨_, _, hv, _, l2, _⟩ := h'
    simp only [Value.agg.injEq, Array.mk.injEq, List.cons.injEq, and_true] at hv
    obtain ⟨_, rfl⟩ := hv
    exact l2.rows
  have hkk : ∀ x : World, Below W.heap.size W x → Rows' wrE x (.slice ab d.cache.length cb) d.cache ∧ Rows' intE x (.slice ak ks.length ck) ks ∧ DOwn B T x (.agg #[.slice aa d.sec.length ca, .slice ab d.cache.length cb]) d ∧ Box x w.heap.size #[.slice aa d.sec.length ca, .slice ab d.cache.length cb] 27 ∧ Box x (w.heap.size + 1) #[.slice none 0 0, .slice none 0 0] 27 ∧ Below w.heap.size w x :=
    fun x hx => ⟨hrw.later hx, hk'.later hx, h'.later hx, hx0.later hx, hx1.later hx, b0.trans (hx.mono b0.size)⟩
  have HKK := Lib.hid hkk
  have HW1 : Hid (w.heap.size + 1 < W.heap.size) := show _ < _ by omega
  have c0 := hx0.cell 0 (.slice aa d.sec.length ca) rfl
  have c1 := hx0.cell 1 (.slice ab d.cache.length cb) rfl
  clear hx0 hx1 h h' hk' hrw hkk hsz hk
  have HCR := Lib.hid (show landD d (kptI d.cache ks d.cache.length) (tearN t) = crD d ks t from rfl)
  have HLN : Hid ((kptI d.cache ks d.cache.length).length ≤ 1048576) := Nat.le_trans (kptI_length _ _ _) hc
  have HINN : Hid (d.ok → ∀ x ∈ kptI d.cache ks d.cache.length, 0 ≤ x.at_ ∧ x.at_ < d.sec.length) := fun hok x hx => ⟨(hok.2.2.2.2 x (kptI_mem hx)).1, (hok.2.2.2.2 x (kptI_mem hx)).2.1⟩
  by_cases hneg : t.tmod 33 < 0
  · have e7 := t2 hneg
    have E7 := Lib.hid e7
    clear t1 t2 e7
    go_enter Try.func14, Try.ntmps14
    go_upto_region 4 with fail
    try rw [hW]
    rw [E7.out]
    clear hW
    go_region_law (first
      | (go_simp; go_at_call 30; refine (kept_any d.cache ks _ _ _ (HKK.out _ (Below.refl _ _).drew).1 (HKK.out _ (Below.refl _ _).drew).2.1 hc hkl).mono ?_; rintro e w1 ⟨vs, rfl, rs⟩; obtain ⟨ps, qs, rfl⟩ := rs.form; have kW1 : Below W.heap.size W w1 := ((Below.refl W.heap.size W).drew).trans rs.bel; have RS := Lib.hid rs; obtain ⟨_, _, o1, x0, x1, _⟩ := HKK.out w1 kW1; have d0 := x0.cell 0 (.slice aa d.sec.length ca) rfl; have d1 := x0.cell 1 (.slice ab d.cache.length cb) rfl; have O1 := Lib.hid o1; clear rs x0 x1 o1; dsimp only)
      | (go_simp; go_at_call 25; refine (landed_any d _ B T _ O1.out hs ht hu _ (kptI d.cache ks d.cache.length) RS.out.rows HLN.out (tearN t) hNl HINN.out).mono ?_; rintro e w2 ⟨v8, rfl, o8, k8⟩; obtain ⟨a8, a9, q8, q9, rfl⟩ := o8.form; obtain ⟨_, _, _, _, x6, b6⟩ := HKK.out w2 (kW1.trans (k8.mono kW1.size)); have r0 := x6.cell 0 (.slice none 0 0) rfl; have r1 := x6.cell 1 (.slice none 0 0) rfl; have f0 := x6.loose 0; have f1 := x6.loose 1; have O8 := Lib.hid o8; have B6 := Lib.hid b6; have S1 : Hid (W.heap.size ≤ w1.heap.size) := kW1.size; clear o8 x6 b6; dsimp only))
    all_goals
      go_wp2
      refine bodyPost_ret (v := .agg #[.slice a8 (landD d (kptI d.cache ks d.cache.length) (tearN t)).sec.length q8, .slice a9 (landD d (kptI d.cache ks d.cache.length) (tearN t)).cache.length q9]) (by simp [results, Try.results14, go_sem, r0, r1]) rfl ?_
      have hl7 : w.heap.size + 1 < w1.heap.size := Nat.lt_of_lt_of_le HW1.out S1.out
      exact ⟨_, rfl, ((O8.out.store (w.heap.size + 1) 0 _ hl7).store (w.heap.size + 1) 1 _ hl7).widen (by omega) (by simp) (Nat.le_refl _), (B6.out.setCell (p := ⟨w.heap.size + 1, 0, none⟩) (by simp) _).setCell (p := ⟨w.heap.size + 1, 1, none⟩) (by simp) _⟩
  · have e7 := t1 (by omega)
    have E7 := Lib.hid e7
    clear t1 t2 e7
    go_enter Try.func14, Try.ntmps14
    go_upto_region 4 with fail
    try rw [hW]
    rw [E7.out]
    clear hW
    go_region_law (first
      | (go_simp; go_at_call 30; refine (kept_any d.cache ks _ _ _ (HKK.out _ (Below.refl _ _).drew).1 (HKK.out _ (Below.refl _ _).drew).2.1 hc hkl).mono ?_; rintro e w1 ⟨vs, rfl, rs⟩; obtain ⟨ps, qs, rfl⟩ := rs.form; have kW1 : Below W.heap.size W w1 := ((Below.refl W.heap.size W).drew).trans rs.bel; have RS := Lib.hid rs; obtain ⟨_, _, o1, x0, x1, _⟩ := HKK.out w1 kW1; have d0 := x0.cell 0 (.slice aa d.sec.length ca) rfl; have d1 := x0.cell 1 (.slice ab d.cache.length cb) rfl; have O1 := Lib.hid o1; clear rs x0 x1 o1; dsimp only)
      | (go_simp; go_at_call 25; refine (landed_any d _ B T _ O1.out hs ht hu _ (kptI d.cache ks d.cache.length) RS.out.rows HLN.out (tearN t) hNl HINN.out).mono ?_; rintro e w2 ⟨v8, rfl, o8, k8⟩; obtain ⟨a8, a9, q8, q9, rfl⟩ := o8.form; obtain ⟨_, _, _, _, x6, b6⟩ := HKK.out w2 (kW1.trans (k8.mono kW1.size)); have r0 := x6.cell 0 (.slice none 0 0) rfl; have r1 := x6.cell 1 (.slice none 0 0) rfl; have f0 := x6.loose 0; have f1 := x6.loose 1; have O8 := Lib.hid o8; have B6 := Lib.hid b6; have S1 : Hid (W.heap.size ≤ w1.heap.size) := kW1.size; clear o8 x6 b6; dsimp only))
    all_goals
      go_wp2
      refine bodyPost_ret (v := .agg #[.slice a8 (landD d (kptI d.cache ks d.cache.length) (tearN t)).sec.length q8, .slice a9 (landD d (kptI d.cache ks d.cache.length) (tearN t)).cache.length q9]) (by simp [results, Try.results14, go_sem, r0, r1]) rfl ?_
      have hl7 : w.heap.size + 1 < w1.heap.size := Nat.lt_of_lt_of_le HW1.out S1.out
      exact ⟨_, rfl, ((O8.out.store (w.heap.size + 1) 0 _ hl7).store (w.heap.size + 1) 1 _ hl7).widen (by omega) (by simp) (Nat.le_refl _), (B6.out.setCell (p := ⟨w.heap.size + 1, 0, none⟩) (by simp) _).setCell (p := ⟨w.heap.size + 1, 1, none⟩) (by simp) _⟩

end Go.Proofs.Ytmmgnpjhlmiafaa
