/- Disks: what the model's FlushDisk hands back. -/
import Derived.Test.YtmmgnpjhlmiafabSpecDisk2
namespace Go.Proofs.Ytmmgnpjhlmiafab
open Go.RowKit

/-- The sectors with these writes in them, in order. -/
def flush (sec : List ByteArray) (c : List Wr) : List ByteArray := c.foldl (fun s x => s.set x.at_.toNat x.text) sec
theorem flush_length (sec : List ByteArray) (c : List Wr) : (flush sec c).length = sec.length := by
  induction c generalizing sec with
  | nil => rfl
  | cons x c ih =>
    have : flush sec (x :: c) = flush (sec.set x.at_.toNat x.text) c := rfl
    rw [this, ih]; simp
theorem flush_take {sec : List ByteArray} {c : List Wr} {i : Nat} (h : i < c.length) : flush sec (c.take (i + 1)) = (flush sec (c.take i)).set c[i].at_.toNat c[i].text := by
  rw [List.take_succ_eq_append_getElem h, flush, flush, List.foldl_append]; rfl
theorem flush_all {sec : List ByteArray} {c : List Wr} {i : Nat} (h : c.length ≤ i) : flush sec (c.take i) = flush sec c := by rw [List.take_of_length_le h]
def flD (d : Dk) : Dk := if d.ok then ⟨flush d.sec d.cache, []⟩ else d

/-- What a function hands back that makes a disk. -/
def DiskR1 (d : Dk) (w : World) (e : Ending) (w' : World) : Prop := ∃ v', e = .returned v' ∧ DOwn w.heap.size w'.heap.size w' v' d ∧ Below w.heap.size w w'

theorem RBuf.drew' {α : Type} {E : Enc α} {B : Nat} {w : World} {v : Value} {l : List α} (h : RBuf E B w w v l) : RBuf E B w.drew w.drew v l := ⟨h.own.drew, Below.refl _ _, h.le⟩

theorem Box.kept {b B T : Nat} {w w' : World} {cs : Array Value} {t : TypeId} (h : Box w b cs t) (hk : Kept B T w w') (hb : b < B ∨ T ≤ b) : Box w' b cs t := (hk.block b h.lt hb).trans h

set_option maxRecDepth 100000 in
set_option maxHeartbeats 4000000 in
theorem specFlushDisk_any (d : Dk) (v : Value) (B T : Nat) (w : World) (h : DOwn B T w v d) (hs : d.small) (ht : ∀ s ∈ d.sec, s.size ≤ 1099511627776) (hu : ∀ x ∈ d.cache, x.text.size ≤ 1099511627776) :
    Calls Try.prog 17 #[v] w fun e w' => DiskR1 (flD d) w e w' := by
  obtain ⟨aa, ab, ca, cb, rfl⟩ := h.form
  obtain ⟨hx0, hx1, b0, hsz⟩ : Box ((w.alloc (.cells #[.slice aa d.sec.length ca, .slice ab d.cache.length cb] 27)).alloc (.cells #[.slice none 0 0, .slice none 0 0] 27)) w.heap.size #[.slice aa d.sec.length ca, .slice ab d.cache.length cb] 27 ∧
      Box ((w.alloc (.cells #[.slice aa d.sec.length ca, .slice ab d.cache.length cb] 27)).alloc (.cells #[.slice none 0 0, .slice none 0 0] 27)) (w.heap.size + 1) #[.slice none 0 0, .slice none 0 0] 27 ∧
      Below w.heap.size w ((w.alloc (.cells #[.slice aa d.sec.length ca, .slice ab d.cache.length cb] 27)).alloc (.cells #[.slice none 0 0, .slice none 0 0] 27)) ∧
      ((w.alloc (.cells #[.slice aa d.sec.length ca, .slice ab d.cache.length cb] 27)).alloc (.cells #[.slice none 0 0, .slice none 0 0] 27)).heap.size = w.heap.size + 2 := by
    have e1 : (w.alloc (.cells #[.slice aa d.sec.length ca, .slice ab d.cache.length cb] 27)).heap.size = w.heap.size + 1 := by simp
    have q0 := Box.new w #[.slice aa d.sec.length ca, .slice ab d.cache.length cb] 27
    have q1 := Box.new (w.alloc (.cells #[.slice aa d.sec.length ca, .slice ab d.cache.length cb] 27)) #[.slice none 0 0, .slice none 0 0] 27
    rw [e1] at q1
    exact ⟨q0.later ((Below.refl _ _).alloc (Nat.le_refl _) _), q1, ((Below.refl _ _).alloc (Nat.le_refl _) _).alloc (by simp) _, by simp⟩
  have h' := h.later b0
  have hTw : T ≤ w.heap.size := by obtain ⟨_, _, _, l1, _⟩ := h; exact l1.2.1
  go_enter Try.func17, Try.ntmps17
  go_wp2_with fail
  generalize ((w.alloc (.cells #[.slice aa d.sec.length ca, .slice ab d.cache.length cb] 27)).alloc (.cells #[.slice none 0 0, .slice none 0 0] 27)) = W at hx0 hx1 b0 hsz h' ⊢
  refine (specCopy_any d _ B T _ h' hs).mono ?_
  rintro e w2 ⟨v2, rfl, o2, k2⟩
  obtain ⟨a1, a2, q1, q2, rfl⟩ := o2.form
  have k3 : Below w2.heap.size w2 (w2.alloc (.cells #[.slice a1 d.sec.length q1, .slice a2 d.cache.length q2] 27)) := (Below.refl _ _).alloc (Nat.le_refl _) _
  have y3 := Box.new w2 #[.slice a1 d.sec.length q1, .slice a2 d.cache.length q2] 27
  have j3 := k2.trans (k3.mono k2.size)
  have o3 := o2.later k3
  have c0 := (hx0.later j3).cell 0 (.slice aa d.sec.length ca) rfl
  have c1 := (hx0.later j3).cell 1 (.slice ab d.cache.length cb) rfl
  have h3 := h'.later j3
  have s2 := k2.size
  clear h h' o2
  go_wp2_with fail
  clear c0 c1
  generalize hw3 : w2.alloc (.cells #[.slice a1 d.sec.length q1, .slice a2 d.cache.length q2] 27) = w3 at *
  have s3 : w3.heap.size = w2.heap.size + 1 := by rw [← hw3]; simp
  refine (specDiskOk_any d _ _ h3.rd hs ht hu).mono ?_
  rintro e w4 ⟨rfl, k4⟩
  have j4 := j3.trans (k4.mono j3.size)
  have x4 := hx0.later j4
  have r4 := hx1.later j4
  have y4 := y3.later k4
  have o4 := o3.later k4
  have h4 := h3.later k4
  have bF : Below w.heap.size w w4 := b0.trans (j4.mono b0.size)
  have s4 := k4.size
  have hD1 := hs.1
  have hD2 := hs.2
  clear hx0 hx1 y3 h3 o3 ht hu hs
  by_cases hok : d.ok
  · rw [decide_eq_true hok]
    have HYES := Lib.hid (show flD d = ⟨flush d.sec d.cache, []⟩ from if_pos hok)
    obtain ⟨va, vb, hv, l1, l2, hap⟩ := o4
    simp only [Value.agg.injEq, Array.mk.injEq, List.cons.injEq, and_true] at hv
    obtain ⟨rfl, rfl⟩ := hv
    obtain ⟨g1, rfl⟩ : ∃ g1 : Nat, a1 = some ⟨g1, 0, none⟩ := by
      rcases l1.1.own.2 with ⟨_, e⟩ | ⟨g, cap, cur, e, _⟩
      · have := hok.1; omega
      · simp only [Value.slice.injEq] at e; exact ⟨g, e.1⟩
    have hg1 : W.heap.size ≤ g1 ∧ g1 < w2.heap.size := ⟨(l1.1.own.lt g1 rfl).1, l1.2.2 g1 rfl⟩
    have hcells : ∀ x ∈ d.cache, 0 ≤ x.at_ ∧ x.at_ < d.sec.length := fun x hx => ⟨(hok.2.2.2.2 x hx).1, (hok.2.2.2.2 x hx).2.1⟩
    have H4 := Lib.hid h4
    have X4 := Lib.hid x4
    have R4 := Lib.hid r4
    have Y4 := Lib.hid y4
    have HC := Lib.hid hcells
    clear h4 x4 r4 y4 hcells l2 hap
    go_wp2
    go_loopw [4] (fun iv wr => ∃ i : Nat, i ≤ d.cache.length ∧ iv = .int .i64 (i : Int) ∧ RBuf strE W.heap.size wr wr (.slice (some ⟨g1, 0, none⟩) d.sec.length q1) (flush d.sec (d.cache.take i)) ∧ Kept W.heap.size w2.heap.size w4 wr) (fun iv _ => d.cache.length - (intOf iv).toNat)
    case atStart => exact ⟨0, by omega, rfl, l1.1, Kept.of_below (Below.refl _ _) _ _⟩
    case round =>
      obtain ⟨i, hi, rfl, hbr, hkp⟩ := hrel
      have x5 := X4.out.kept hkp (.inl (by omega))
      have r5 := R4.out.kept hkp (.inl (by omega))
      have y5 := Y4.out.kept hkp (.inr (Nat.le_refl _))
      by_cases hlt : i < d.cache.length
      · have h5 := H4.out.kept hkp (.inl (by omega))
        obtain ⟨_, _, hv5, _, l5, _⟩ := h5
        simp only [Value.agg.injEq, Array.mk.injEq, List.cons.injEq, and_true] at hv5
        obtain ⟨rfl, rfl⟩ := hv5
        obtain ⟨g, off, rfl, hcl⟩ := l5.rows.at i hlt
        have d0 : wr.cell? ⟨g, off + i * 2, none⟩ = some (.int .i64 d.cache[i].at_) := hcl wr (Below.refl _ _) 0 _ rfl
        have d1 : wr.cell? ⟨g, off + i * 2 + 1, none⟩ = some (.string d.cache[i].text) := hcl wr (Below.refl _ _) 1 _ rfl
        obtain ⟨hx1, hx2⟩ := HC.out _ (List.getElem_mem hlt)
        have hft := Lib.hid (flush_take (sec := d.sec) hlt)
        have hfl := flush_length d.sec (d.cache.take i)
        clear hcl l5
        generalize d.cache[i] = x at *
        obtain ⟨n, t⟩ := x
        simp only at d0 d1 hx1 hx2 hft
        obtain ⟨k, rfl⟩ := Int.eq_ofNat_of_zero_le hx1
        rw [Int.toNat_natCast] at hft
        have hk : k < (flush d.sec (d.cache.take i)).length := by omega
        have hat := List.getElem?_eq_getElem hk
        rw [← hfl] at hbr
        have cs : wr.cell? ⟨g1, k, none⟩ = some (.string (flush d.sec (d.cache.take i))[k]) := by
          have := hbr.cell rfl k _ hat 0 _ rfl
          rw [show strE.sz = 1 from rfl, Nat.mul_one, Nat.add_zero] at this
          exact this
        have fs := hbr.loose k
        have hst := hbr.stored k _ t hat 0 (by decide) (.string t) rfl
        rw [show strE.sz = 1 from rfl, Nat.mul_one, Nat.add_zero, ← hft.out, hfl] at hst
        have hk2 : Kept W.heap.size w2.heap.size w4 (wr.setCell ⟨g1, k, none⟩ (.string t)) := hkp.trans (Kept.of_grown (stored_grown wr g1 k (.string t)) (fun j hj => by have := Option.some.inj hj; omega))
        have m1 := x5.cell 1 (.slice (some ⟨g, off, none⟩) d.cache.length cb) rfl
        have n0 := y5.cell 0 (.slice (some ⟨g1, 0, none⟩) d.sec.length q1) rfl
        have hi0 : (0 : Int) ≤ (i : Int) := by omega
        have hi1 : (i : Int) < (d.cache.length : Int) := by omega
        have hk0 : (0 : Int) ≤ (k : Int) := by omega
        generalize (flush d.sec (d.cache.take i))[k] = old at cs
        have HST := Lib.hid hst
        have HK2 := Lib.hid hk2
        clear hbr hkp hat x5 r5 y5 hst hk2 hk hfl
        go_wp2
        go_region
        all_goals
          go_wp2
          go_roundw
          case rel => exact ⟨i + 1, by omega, by go_num, HST.out.here.drew', HK2.out.trans (Kept.of_below ((Below.refl _ _).drew) _ _)⟩
          case measure => simp [intOf]; omega
      · rw [flush_all (by omega)] at hbr
        have x1 := x5.cell 1 (.slice ab d.cache.length cb) rfl
        have kA : Below wr.heap.size wr (wr.alloc (.cells #[] 49)) := (Below.refl _ _).alloc (Nat.le_refl _) _
        have y6 := y5.later kA
        have r6 := r5.later kA
        have m0 := y6.cell 0 (.slice (some ⟨g1, 0, none⟩) d.sec.length q1) rfl
        have m1 := y6.cell 1 (.slice a2 d.cache.length q2) rfl
        have n1 := y6.loose 1
        have r0 := r6.cell 0 (.slice none 0 0) rfl
        have r1 := r6.cell 1 (.slice none 0 0) rfl
        have f0 := r6.loose 0
        have f1 := r6.loose 1
        have sA : (wr.alloc (.cells #[] 49)).heap.size = wr.heap.size + 1 := by simp
        have hfl := flush_length d.sec d.cache
        have hwr : w4.heap.size ≤ wr.heap.size := hkp.size
        have LS := Lib.hid (show LOwn strE W.heap.size w2.heap.size (wr.alloc (.cells #[] 49)) (.slice (some ⟨g1, 0, none⟩) d.sec.length q1) (flush d.sec d.cache) from LOwn.later ⟨hbr, by omega, fun j hj => by have : g1 = j := Option.some.inj hj; omega⟩ kA)
        have LC := Lib.hid (show LOwn wrE wr.heap.size (wr.alloc (.cells #[] 49)).heap.size (wr.alloc (.cells #[] 49)) (.slice (some ⟨wr.heap.size, 0, none⟩) 0 0) [] from (RBuf.fresh wrE wr).lown)
        have BA := Lib.hid ((hkp.below bF (by omega) bF.size).alloc (Nat.le_trans bF.size hkp.size) (.cells #[] 49))
        clear x5 r5 y5 y6 r6 hbr hkp kA
        go_wp2
        have q1' := ((LS.out.storeHi w2.heap.size 1 (.slice (some ⟨wr.heap.size, 0, none⟩) 0 0) (Nat.le_refl _)).store (w.heap.size + 1) 0 (.slice (some ⟨g1, 0, none⟩) d.sec.length q1) (by omega)).store (w.heap.size + 1) 1 (.slice (some ⟨wr.heap.size, 0, none⟩) 0 0) (by omega)
        have q2' := ((LC.out.store w2.heap.size 1 (.slice (some ⟨wr.heap.size, 0, none⟩) 0 0) (by omega)).store (w.heap.size + 1) 0 (.slice (some ⟨g1, 0, none⟩) d.sec.length q1) (by omega)).store (w.heap.size + 1) 1 (.slice (some ⟨wr.heap.size, 0, none⟩) 0 0) (by omega)
        have bE := ((BA.out.setCell (p := ⟨w2.heap.size, 1, none⟩) (by simp; omega) (.slice (some ⟨wr.heap.size, 0, none⟩) 0 0)).setCell (p := ⟨w.heap.size + 1, 0, none⟩) (by simp) (.slice (some ⟨g1, 0, none⟩) d.sec.length q1)).setCell (p := ⟨w.heap.size + 1, 1, none⟩) (by simp) (.slice (some ⟨wr.heap.size, 0, none⟩) 0 0)
        refine bodyPost_ret (v := .agg #[.slice (some ⟨g1, 0, none⟩) d.sec.length q1, .slice (some ⟨wr.heap.size, 0, none⟩) 0 0]) (by simp [results, Try.results17, go_sem, r0, r1]) rfl ?_
        rw [HYES.out]
        refine ⟨_, rfl, ⟨_, _, rfl, (q1'.deeper (by omega)).wider (by simp; omega) (Nat.le_refl _), (q2'.deeper (by omega)).wider (by simp) (Nat.le_refl _), .inr fun e => ?_⟩, bE⟩
        have : g1 = wr.heap.size := Option.some.inj e
        omega
  · rw [decide_eq_false hok]
    have HNO := Lib.hid (show flD d = d from if_neg hok)
    have r0 := r4.cell 0 (.slice none 0 0) rfl
    have r1 := r4.cell 1 (.slice none 0 0) rfl
    have f0 := r4.loose 0
    have f1 := r4.loose 1
    have m0 := y4.cell 0 (.slice a1 d.sec.length q1) rfl
    have m1 := y4.cell 1 (.slice a2 d.cache.length q2) rfl
    clear x4 r4 y4 h4
    go_wp2
    refine bodyPost_ret (v := .agg #[.slice a1 d.sec.length q1, .slice a2 d.cache.length q2]) (by simp [results, Try.results17, go_sem, r0, r1]) rfl ?_
    rw [HNO.out]
    exact ⟨_, rfl, ((o4.store (w.heap.size + 1) 0 (.slice a1 d.sec.length q1) (by omega)).store (w.heap.size + 1) 1 (.slice a2 d.cache.length q2) (by omega)).widen (by omega) (by simp; omega) (Nat.le_refl _), (bF.setCell (p := ⟨w.heap.size + 1, 0, none⟩) (by simp) _).setCell (p := ⟨w.heap.size + 1, 1, none⟩) (by simp) _⟩

end Go.Proofs.Ytmmgnpjhlmiafab
