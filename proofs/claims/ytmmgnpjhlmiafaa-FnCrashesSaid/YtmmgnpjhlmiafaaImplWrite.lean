/- Disks: what the program's WriteSector hands back. -/
import Derived.Test.YtmmgnpjhlmiafaaCopyDisk
import Derived.Deep.RegionLaw
namespace Go.Proofs.Ytmmgnpjhlmiafaa
open Go.RowKit

theorem wrOk_iff (d : Dk) (a : Int) (t : ByteArray) : (⟨d.sec, d.cache ++ [⟨a, t⟩]⟩ : Dk).ok ↔ wrOk d a t := by
  constructor
  · rintro ⟨h1, h2, h3, h4, h5⟩
    have hl : (d.cache ++ [(⟨a, t⟩ : Wr)]).length = d.cache.length + 1 := by simp
    simp only [hl] at h3
    obtain ⟨x1, x2, x3⟩ := h5 ⟨a, t⟩ (by simp)
    exact ⟨⟨h1, h2, by omega, h4, fun x hx => h5 x (by simp [hx])⟩, ⟨x1, x2⟩, x3, by omega⟩
  · rintro ⟨⟨h1, h2, _, h4, h5⟩, ⟨x1, x2⟩, x3, h3⟩
    refine ⟨h1, h2, ?_, h4, fun x hx => ?_⟩
    · show (d.cache ++ [(⟨a, t⟩ : Wr)]).length ≤ 60
      simp; omega
    · rcases List.mem_append.1 hx with h | h
      · exact h5 x h
      · simp at h; subst h; exact ⟨x1, x2, x3⟩

theorem wrD_small {d : Dk} {a : Int} {t : ByteArray} (h : d.small) (hc : d.count ≤ 4000000) : (wrD d a t).small ∧ (wrD d a t).count ≤ 4000010 := by
  unfold wrD
  split
  · unfold Dk.count at hc
    refine ⟨⟨h.1, ?_⟩, ?_⟩
    · show (d.cache ++ [(⟨a, t⟩ : Wr)]).length ≤ _
      simp; omega
    · show d.sec.length + 2 * (d.cache ++ [(⟨a, t⟩ : Wr)]).length ≤ _
      simp; omega
  · exact ⟨h, by omega⟩

set_option maxRecDepth 100000 in
set_option maxHeartbeats 4000000 in
theorem implWriteSector_any (d : Dk) (v : Value) (a : Int) (t : ByteArray) (B T : Nat) (w : World) (h : DOwn B T w v d) (hs : d.small) (ht : ∀ s ∈ d.sec, s.size ≤ 1099511627776) (hu : ∀ x ∈ d.cache, x.text.size ≤ 1099511627776) (htz : t.size ≤ 1099511627776) (hs' : d.cache.length < 1073741824) :
    Calls Try.prog 9 #[v, .int .i64 a, .string t] w fun e w' => DiskR (wrD d a t) (decide (wrOk d a t)) w e w' := by
  obtain ⟨aa, ab, ca, cb, rfl⟩ := h.form
  obtain ⟨hx0, hx1, b0, hsz⟩ := two_boxes w #[.slice aa d.sec.length ca, .slice ab d.cache.length cb] #[.slice none 0 0, .slice none 0 0] 27 27
  have h' := h.later b0
  go_enter Try.func9, Try.ntmps9
  go_wp2_with fail
  generalize ((w.alloc (.cells #[.slice aa d.sec.length ca, .slice ab d.cache.length cb] 27)).alloc (.cells #[.slice none 0 0, .slice none 0 0] 27)) = W at hx0 hx1 b0 hsz h' ⊢
  refine (copyDisk_any d _ B T _ h' hs ht hu).mono ?_
  rintro e w2 ⟨v2, rfl, o2, k2⟩
  obtain ⟨a1, a2, q1, q2, rfl⟩ := o2.form
  have k3 : Below w2.heap.size w2 (w2.alloc (.cells #[.slice a1 d.sec.length q1, .slice a2 d.cache.length q2] 27)) := belAlloc _ _
  have y3 := Box.new w2 #[.slice a1 d.sec.length q1, .slice a2 d.cache.length q2] 27
  have s3 : (w2.alloc (.cells #[.slice a1 d.sec.length q1, .slice a2 d.cache.length q2] 27)).heap.size = w2.heap.size + 1 := by simp
  have j3 := k2.trans (k3.mono k2.size)
  have o3 := o2.later k3
  have h3 := h'.later j3
  have X0 := Lib.hid (hx0.later j3)
  have X1 := Lib.hid (hx1.later j3)
  have s2 := k2.size
  go_upto_region 2 with fail
  generalize w2.alloc (.cells #[.slice a1 d.sec.length q1, .slice a2 d.cache.length q2] 27) = w3 at k3 y3 s3 j3 o3 h3 X0 X1 ⊢
  obtain ⟨va, vb, hv, l1, l2, hap⟩ := o3
  simp only [Value.agg.injEq, Array.mk.injEq, List.cons.injEq, and_true] at hv
  obtain ⟨rfl, rfl⟩ := hv
  have hD1 := hs.1
  have hD2 := hs.2
  have L1 := Lib.hid l1
  have L2 := Lib.hid l2
  have Y3 := Lib.hid y3
  have hin1 : ∀ k, (Value.slice a1 d.sec.length q1).ownBlock = some k → W.heap.size ≤ k ∧ k < w2.heap.size := fun k hk => ⟨(l1.1.own.lt k hk).1, l1.2.2 k hk⟩
  have hin2 : ∀ k, (Value.slice a2 d.cache.length q2).ownBlock = some k → W.heap.size ≤ k ∧ k < w2.heap.size := fun k hk => ⟨(l2.1.own.lt k hk).1, l2.2.2 k hk⟩
  have HIN := Lib.hid (And.intro hin1 hin2)
  have HAP := Lib.hid hap
  have S3 := Lib.hid s3
  go_cut [] (fun wx => ∃ (a6 : Option Addr) (q6 : Nat), Box wx w2.heap.size #[.slice a1 d.sec.length q1, .slice a6 (d.cache.length + 1) q6] 27 ∧ DOwn W.heap.size wx.heap.size wx (.agg #[.slice a1 d.sec.length q1, .slice a6 (d.cache.length + 1) q6]) ⟨d.sec, d.cache ++ [⟨a, t⟩]⟩ ∧ Below W.heap.size W wx)
  case first =>
    have HC : Hid (∀ (x : World) (o : Obj), Below w3.drew.heap.size w3.drew x → RBuf wrE W.heap.size (x.alloc o) (x.alloc o) (.slice a2 d.cache.length q2) d.cache ∧ x.cell? ⟨w2.heap.size, 1, none⟩ = some (.slice a2 d.cache.length q2) ∧ (x.alloc o).cell? ⟨w2.heap.size, 1, none⟩ = some (.slice a2 d.cache.length q2)) := by
      intro x o hx
      have hx2 : Below w3.heap.size w3 x := ((Below.refl _ _).drew).trans hx
      exact ⟨((L2.out.later hx2).1.alloc o).here, (Y3.out.later hx2).cell 1 _ rfl, ((Y3.out.later hx2).later (belAlloc _ _)).cell 1 _ rfl⟩
    have HC6 : Hid (∀ (x y : World) (o : Obj), Below w3.drew.heap.size w3.drew x → (x.alloc o).grownBy y (Value.slice a2 d.cache.length q2).ownBlock → Box y w2.heap.size #[.slice a1 d.sec.length q1, .slice a2 d.cache.length q2] 27 ∧ Below W.heap.size W y ∧ LOwn strE W.heap.size w2.heap.size y (.slice a1 d.sec.length q1) d.sec ∧ w2.heap.size < x.heap.size) := by
      intro x y o hx hg
      have hx2 : Below w3.heap.size w3 x := ((Below.refl _ _).drew).trans hx
      have hxo : Below w3.heap.size w3 (x.alloc o) := hx2.trans ((belAlloc x o).mono hx2.size)
      have bo := Y3.out.later hxo
      have jx := j3.trans (hxo.mono j3.size)
      refine ⟨(hg.block _ bo.lt (fun e => by have := HIN.out.2 _ e.symm; omega)).trans bo, jx.grown hg jx.size (fun k hk => by have := HIN.out.2 k hk; omega), (L1.out.later hxo).grown hg HAP.out, ?_⟩
      have := hx2.size
      have := S3.out
      omega
    have c1 := y3.cell 1 (.slice a2 d.cache.length q2) rfl
    clear hx0 hx1 h h' h3 y3 l1 l2 hap hin1 hin2 o2 k2 k3 j3 s3 ht hu hsz
    go_region_law (first
      | (go_simp; go_at_call 24; refine (clone_any _ _ (by omega)).mono ?_; rintro e w5 ⟨rfl, k5⟩; have c5 := (HC.out _ (.cells #[] 0) k5).2.1; have d5 := (HC.out _ (.cells #[.int .i64 a, .string t] 49) k5).2.2; dsimp only)
      | (refine step_append_rows (by rfl) _ _ wrE (by rfl) W.heap.size _ d.cache (by rfl) (HC.out _ _ k5).1 w5.heap.size _ [⟨a, t⟩] (by rfl) (RBuf.lit1 wrE w5 ⟨a, t⟩) (by simp [wrE]; omega) ?_; intro v6 w6 hr6 hg6 at6 lt6; obtain ⟨a6, q6, rfl⟩ := hr6.form; obtain ⟨bx6, bel6, ls6, sz6⟩ := HC6.out _ _ _ k5 hg6; have z1 := bx6.cell 1 (.slice a2 d.cache.length q2) rfl; have f1 := bx6.loose 1))
    all_goals
      go_wp2_with fail
      go_meet
      have e6 : (d.cache ++ [(⟨a, t⟩ : Wr)]).length = d.cache.length + 1 := by simp
      rw [e6] at hr6 at6
      have at7 : (Value.slice a6 (d.cache.length + 1) q6).ownBlock = (Value.slice a2 d.cache.length q2).ownBlock ∨ (Value.slice a6 (d.cache.length + 1) q6).ownBlock = some (w5.heap.size + 1) := by
        have sx : (w5.alloc (.cells #[.int .i64 a, .string t] 49)).heap.size = w5.heap.size + 1 := by simp
        rw [← sx]; exact at6
      have nO : (Value.slice a6 (d.cache.length + 1) q6).ownBlock ≠ some w2.heap.size := by
        rcases at7 with e | e
        · rw [e]; intro h; have := HIN.out.2 _ h; omega
        · rw [e]; intro h; have := Option.some.inj h; omega
      have f1' := ls6.storeHi w2.heap.size 1 (.slice a6 (d.cache.length + 1) q6) (Nat.le_refl _)
      have f2' := hr6.lown.grown (stored_grown w6 w2.heap.size 1 (.slice a6 (d.cache.length + 1) q6)) (.inr nO)
      have ss : (w6.setCell ⟨w2.heap.size, 1, none⟩ (.slice a6 (d.cache.length + 1) q6)).heap.size = w6.heap.size := by simp
      refine ⟨a6, q6, ?_, ⟨_, _, rfl, f1'.wider (Nat.le_trans ls6.2.1 (Nat.le_of_eq ss.symm)) (Nat.le_refl _), by rw [ss]; exact f2', ?_⟩, bel6.setCell (p := ⟨w2.heap.size, 1, none⟩) (by simpa using s2) _⟩
      · have := bx6.set 1 (.slice a6 (d.cache.length + 1) q6)
        simpa using this
      · rcases at7 with e | e
        · rw [e]; exact HAP.out
        · rw [e]
          refine .inr fun h => ?_
          have := HIN.out.1 _ h
          omega
  case rest =>
    obtain ⟨a6, q6, bx, ow, bel⟩ := hcut
    have m0 := bx.cell 0 (.slice a1 d.sec.length q1) rfl
    have m1 := bx.cell 1 (.slice a6 (d.cache.length + 1) q6) rfl
    have hsm : (⟨d.sec, d.cache ++ [⟨a, t⟩]⟩ : Dk).small := ⟨hs.1, by show (d.cache ++ [(⟨a, t⟩ : Wr)]).length ≤ _; simp; omega⟩
    have HHX := Lib.hid (And.intro (hx0.later bel) (hx1.later bel))
    have HH := Lib.hid (h'.later bel)
    have OW := Lib.hid ow
    have BX := Lib.hid bx
    have HSZ := Lib.hid hsz
    clear hx0 hx1 h h' o2 k2 k3 y3 s3 j3 h3 l1 l2 hap hin1 hin2 hsz bx
    go_wp2_with fail
    clear m0 m1
    refine (implDiskOk_any ⟨d.sec, d.cache ++ [⟨a, t⟩]⟩ _ _ ow.rd hsm).mono ?_
    rintro e w7 ⟨rfl, k7⟩
    rw [decide_eq_decide.2 (wrOk_iff d a t)]
    have bel7 := bel.trans (k7.mono bel.size)
    have x1 := HHX.out.2.later k7
    have r0 := x1.cell 0 (.slice none 0 0) rfl
    have r1 := x1.cell 1 (.slice none 0 0) rfl
    have f0 := x1.loose 0
    have f1 := x1.loose 1
    have hWl : Hid (w.heap.size + 1 < W.heap.size) := show _ < _ by have := HSZ.out; omega
    have bF := Lib.hid (b0.trans (bel7.mono b0.size))
    by_cases hw : wrOk d a t
    · have E2 := Lib.hid (show wrD d a t = ⟨d.sec, d.cache ++ [⟨a, t⟩]⟩ from if_pos hw)
      rw [decide_eq_true hw]
      have y7 := BX.out.later k7
      have m0 := y7.cell 0 (.slice a1 d.sec.length q1) rfl
      have m1 := y7.cell 1 (.slice a6 (d.cache.length + 1) q6) rfl
      have O7 := Lib.hid ((OW.out.later k7).widen (Nat.le_refl _) k7.size (Nat.le_refl _))
      clear y7 x1 bel bel7
      go_wp2
      refine bodyPost_ret (v := .tuple #[.agg #[.slice a1 d.sec.length q1, .slice a6 (d.cache.length + 1) q6], .bool true]) (by simp [results, Try.results9, go_sem, r0, r1]) rfl ?_
      rw [E2.out, decide_eq_true hw]
      exact ⟨_, rfl, ((O7.out.store (w.heap.size + 1) 0 (.slice a1 d.sec.length q1) hWl.out).store (w.heap.size + 1) 1 (.slice a6 (d.cache.length + 1) q6) hWl.out).widen (by have := hWl.out; omega) (by simp) (Nat.le_refl _), (bF.out.setCell (p := ⟨w.heap.size + 1, 0, none⟩) (by simp) _).setCell (p := ⟨w.heap.size + 1, 1, none⟩) (by simp) _⟩
    · have E2 := Lib.hid (show wrD d a t = d from if_neg hw)
      rw [decide_eq_false hw]
      have x7 := HHX.out.1.later k7
      have m0 := x7.cell 0 (.slice aa d.sec.length ca) rfl
      have m1 := x7.cell 1 (.slice ab d.cache.length cb) rfl
      have H7 := HH.out.later k7
      clear x7 r0 r1 f0 f1
      go_wp2_with fail
      clear m0 m1
      refine (copyDisk_any d _ B T _ H7 hs ht hu).mono ?_
      rintro e w8 ⟨v8, rfl, o8, k8⟩
      obtain ⟨a8, a9, q8, q9, rfl⟩ := o8.form
      have x8 := x1.later k8
      have r0 := x8.cell 0 (.slice none 0 0) rfl
      have r1 := x8.cell 1 (.slice none 0 0) rfl
      have f0 := x8.loose 0
      have f1 := x8.loose 1
      have b8 := Lib.hid (bF.out.trans (k8.mono bF.out.size))
      have O8 := Lib.hid o8
      have s7 : Hid (W.heap.size ≤ w7.heap.size) := bel7.size
      clear x8 x1 o8 bel bel7 H7 k8
      go_wp2
      refine bodyPost_ret (v := .tuple #[.agg #[.slice a8 d.sec.length q8, .slice a9 d.cache.length q9], .bool false]) (by simp [results, Try.results9, go_sem, r0, r1]) rfl ?_
      rw [E2.out, decide_eq_false hw]
      have hl7 : w.heap.size + 1 < w7.heap.size := Nat.lt_of_lt_of_le hWl.out s7.out
      exact ⟨_, rfl, ((O8.out.store (w.heap.size + 1) 0 (.slice a8 d.sec.length q8) hl7).store (w.heap.size + 1) 1 (.slice a9 d.cache.length q9) hl7).widen (by omega) (by simp) (Nat.le_refl _), (b8.out.setCell (p := ⟨w.heap.size + 1, 0, none⟩) (by simp) _).setCell (p := ⟨w.heap.size + 1, 1, none⟩) (by simp) _⟩

end Go.Proofs.Ytmmgnpjhlmiafaa
