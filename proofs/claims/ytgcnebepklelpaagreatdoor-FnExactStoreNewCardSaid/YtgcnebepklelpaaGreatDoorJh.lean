/- Texts of our own, joined. -/
import Derived.Test.YtgcnebepklelpaaGreatDoorJg
import Derived.Deep.RegionLaw
import Derived.Test.YtgcnebepklelpaaGreatDoorJf
import Derived.Deep.Cut
import Derived.Deep.CutRange
import Derived.Lib.Hide
import Derived.Test.YtgcnebepklelpaaGreatDoorJe
import Derived.Test.YtgcnebepklelpaaGreatDoorJb
import Derived.RangeFuncNested
import Derived.RangeFuncBound
import Derived.RangeFuncCalls
import Derived.RangeFuncLeaves
import Derived.RangeFuncBox
import Derived.Shelf.Abstract
import Derived.Shelf.RegionOpen
import Derived.WalkKit
import Derived.OwnWalkIn
import Derived.TacticsInMore
import Derived.LoopNIn
import Derived.LoopIn
import Derived.Shelf.Strings.Builder1
import Derived.Shelf.Lays
import Derived.Test.YtgcnebepklelpaaGreatDoorJa
/- Disks: what the program's WriteSector hands back. -/
namespace Go.Proofs.YtgcnebepklelpaaGreatDoor
open Go.RowKit

theorem wrOk_iff (d : Dk) (a : Int) (t : ByteArray) : (⟨d.sec, d.cache ++ [⟨a, t⟩]⟩ : Dk).ok ↔ wrOk d a t := by
  constructor
  · rintro ⟨h1, h2, h3, h4, h5⟩
    have hl : (d.cache ++ [(⟨a, t⟩ : Wr)]).length = d.cache.length + 1 := by simp
    simp only [hl] at h3
    obtain ⟨x1, x2, x3⟩ := h5 ⟨a, t⟩ (by simp)
    exact ⟨⟨h1, h2, by omega, h4, fun x hx => h5 x (by simp [hx])⟩, ⟨x1, x2⟩, x3, by omega⟩
  · rintro ⟨⟨h1, h2, _, h4, h5⟩, ⟨x1, x2⟩, x3, h3⟩
    refine ⟨h1, h2, ?_, h4, fun x hx => ?_⟩
    · show (d.cache ++ [(⟨a, t⟩ : Wr)]).length ≤ 60
      simp; omega
    · rcases List.mem_append.1 hx with h | h
      · exact h5 x h
      · simp at h; subst h; exact ⟨x1, x2, x3⟩

set_option maxRecDepth 100000 in
set_option maxHeartbeats 4000000 in
theorem implWriteSector_any (d : Dk) (v : Value) (a : Int) (t : ByteArray) (B T : Nat) (w : World) (h : DOwn B T w v d) (hs : d.small) (ht : ∀ s ∈ d.sec, s.size ≤ 1099511627776) (hu : ∀ x ∈ d.cache, x.text.size ≤ 1099511627776) (htz : t.size ≤ 1099511627776) (hs' : d.cache.length < 1073741824) :
    Calls Tryz.prog 99 #[v, .int .i64 a, .string t] w fun e w' => DiskR (wrD d a t) (decide (wrOk d a t)) w e w' := by
  obtain ⟨aa, ab, ca, cb, rfl⟩ := h.form
  obtain ⟨hx0, hx1, b0, hsz⟩ := two_boxes w #[.slice aa d.sec.length ca, .slice ab d.cache.length cb] #[.slice none 0 0, .slice none 0 0] 25 25
  have h' := h.later b0
  go_enter Tryz.func99, Tryz.ntmps99
  go_wp2_with fail
  generalize ((w.alloc (.cells #[.slice aa d.sec.length ca, .slice ab d.cache.length cb] 25)).alloc (.cells #[.slice none 0 0, .slice none 0 0] 25)) = W at hx0 hx1 b0 hsz h' ⊢
  refine (copyDisk_any d _ B T _ h' hs ht hu).mono ?_
  rintro e w2 ⟨v2, rfl, o2, k2⟩
  obtain ⟨a1, a2, q1, q2, rfl⟩ := o2.form
  have k3 : Below w2.heap.size w2 (w2.alloc (.cells #[.slice a1 d.sec.length q1, .slice a2 d.cache.length q2] 25)) := belAlloc _ _
  have y3 := Box.new w2 #[.slice a1 d.sec.length q1, .slice a2 d.cache.length q2] 25
  have s3 : (w2.alloc (.cells #[.slice a1 d.sec.length q1, .slice a2 d.cache.length q2] 25)).heap.size = w2.heap.size + 1 := by simp
  have j3 := k2.trans (k3.mono k2.size)
  have o3 := o2.later k3
  have h3 := h'.later j3
  have X0 := Lib.hid (hx0.later j3)
  have X1 := Lib.hid (hx1.later j3)
  have s2 := k2.size
  go_upto_region 2 with fail
  generalize w2.alloc (.cells #[.slice a1 d.sec.length q1, .slice a2 d.cache.length q2] 25) = w3 at k3 y3 s3 j3 o3 h3 X0 X1 ⊢
  obtain ⟨va, vb, hv, l1, l2, hap⟩ := o3
  simp only [Value.agg.injEq, Array.mk.injEq, List.cons.injEq, and_true] at hv
  obtain ⟨rfl, rfl⟩ := hv
  have hD1 := hs.1
  have hD2 := hs.2
  have L1 := Lib.hid l1
  have L2 := Lib.hid l2
  have Y3 := Lib.hid y3
  have hin1 : ∀ k, (Value.slice a1 d.sec.length q1).ownBlock = some k → W.heap.size ≤ k ∧ k < w2.heap.size := fun k hk => ⟨(l1.1.own.lt k hk).1, l1.2.2 k hk⟩
  have hin2 : ∀ k, (Value.slice a2 d.cache.length q2).ownBlock = some k → W.heap.size ≤ k ∧ k < w2.heap.size := fun k hk => ⟨(l2.1.own.lt k hk).1, l2.2.2 k hk⟩
  have HIN := Lib.hid (And.intro hin1 hin2)
  have HAP := Lib.hid hap
  have S3 := Lib.hid s3
  go_cut [] (fun wx => ∃ (a6 : Option Addr) (q6 : Nat), Box wx w2.heap.size #[.slice a1 d.sec.length q1, .slice a6 (d.cache.length + 1) q6] 25 ∧ DOwn W.heap.size wx.heap.size wx (.agg #[.slice a1 d.sec.length q1, .slice a6 (d.cache.length + 1) q6]) ⟨d.sec, d.cache ++ [⟨a, t⟩]⟩ ∧ Below W.heap.size W wx)
  case first =>
    have HC : Hid (∀ (x : World) (o : Obj), Below w3.drew.heap.size w3.drew x → RBuf wrE W.heap.size (x.alloc o) (x.alloc o) (.slice a2 d.cache.length q2) d.cache ∧ x.cell? ⟨w2.heap.size, 1, none⟩ = some (.slice a2 d.cache.length q2) ∧ (x.alloc o).cell? ⟨w2.heap.size, 1, none⟩ = some (.slice a2 d.cache.length q2)) := by
      intro x o hx
      have hx2 : Below w3.heap.size w3 x := ((Below.refl _ _).drew).trans hx
      exact ⟨((L2.out.later hx2).1.alloc o).here, (Y3.out.later hx2).cell 1 _ rfl, ((Y3.out.later hx2).later (belAlloc _ _)).cell 1 _ rfl⟩
    have HC6 : Hid (∀ (x y : World) (o : Obj), Below w3.drew.heap.size w3.drew x → (x.alloc o).grownBy y (Value.slice a2 d.cache.length q2).ownBlock → Box y w2.heap.size #[.slice a1 d.sec.length q1, .slice a2 d.cache.length q2] 25 ∧ Below W.heap.size W y ∧ LOwn strE W.heap.size w2.heap.size y (.slice a1 d.sec.length q1) d.sec ∧ w2.heap.size < x.heap.size) := by
      intro x y o hx hg
      have hx2 : Below w3.heap.size w3 x := ((Below.refl _ _).drew).trans hx
      have hxo : Below w3.heap.size w3 (x.alloc o) := hx2.trans ((belAlloc x o).mono hx2.size)
      have bo := Y3.out.later hxo
      have jx := j3.trans (hxo.mono j3.size)
      refine ⟨(hg.block _ bo.lt (fun e => by have := HIN.out.2 _ e.symm; omega)).trans bo, jx.grown hg jx.size (fun k hk => by have := HIN.out.2 k hk; omega), (L1.out.later hxo).grown hg HAP.out, ?_⟩
      have := hx2.size
      have := S3.out
      omega
    have c1 := y3.cell 1 (.slice a2 d.cache.length q2) rfl
    clear hx0 hx1 h h' h3 y3 l1 l2 hap hin1 hin2 o2 k2 k3 j3 s3 ht hu hsz
    go_region_law (first
      | (go_simp; go_at_call 115; refine (clone_any _ _ (by omega)).mono ?_; rintro e w5 ⟨rfl, k5⟩; have c5 := (HC.out _ (.cells #[] 0) k5).2.1; have d5 := (HC.out _ (.cells #[.int .i64 a, .string t] 104) k5).2.2; dsimp only)
      | (refine step_append_rows (by rfl) _ _ wrE (by rfl) W.heap.size _ d.cache (by rfl) (HC.out _ _ k5).1 w5.heap.size _ [⟨a, t⟩] (by rfl) (RBuf.lit1 wrE w5 ⟨a, t⟩) (by simp [wrE]; omega) ?_; intro v6 w6 hr6 hg6 at6 lt6; obtain ⟨a6, q6, rfl⟩ := hr6.form; obtain ⟨bx6, bel6, ls6, sz6⟩ := HC6.out _ _ _ k5 hg6; have z1 := bx6.cell 1 (.slice a2 d.cache.length q2) rfl; have f1 := bx6.loose 1))
    all_goals
      go_wp2_with fail
      go_meet
      have e6 : (d.cache ++ [(⟨a, t⟩ : Wr)]).length = d.cache.length + 1 := by simp
      rw [e6] at hr6 at6
      have at7 : (Value.slice a6 (d.cache.length + 1) q6).ownBlock = (Value.slice a2 d.cache.length q2).ownBlock ∨ (Value.slice a6 (d.cache.length + 1) q6).ownBlock = some (w5.heap.size + 1) := by
        have sx : (w5.alloc (.cells #[.int .i64 a, .string t] 104)).heap.size = w5.heap.size + 1 := by simp
        rw [← sx]; exact at6
      have nO : (Value.slice a6 (d.cache.length + 1) q6).ownBlock ≠ some w2.heap.size := by
        rcases at7 with e | e
        · rw [e]; intro h; have := HIN.out.2 _ h; omega
        · rw [e]; intro h; have := Option.some.inj h; omega
      have f1' := ls6.storeHi w2.heap.size 1 (.slice a6 (d.cache.length + 1) q6) (Nat.le_refl _)
      have f2' := hr6.lown.grown (stored_grown w6 w2.heap.size 1 (.slice a6 (d.cache.length + 1) q6)) (.inr nO)
      have ss : (w6.setCell ⟨w2.heap.size, 1, none⟩ (.slice a6 (d.cache.length + 1) q6)).heap.size = w6.heap.size := by simp
      refine ⟨a6, q6, ?_, ⟨_, _, rfl, f1'.wider (Nat.le_trans ls6.2.1 (Nat.le_of_eq ss.symm)) (Nat.le_refl _), by rw [ss]; exact f2', ?_⟩, bel6.setCell (p := ⟨w2.heap.size, 1, none⟩) (by simpa using s2) _⟩
      · have := bx6.set 1 (.slice a6 (d.cache.length + 1) q6)
        simpa using this
      · rcases at7 with e | e
        · rw [e]; exact HAP.out
        · rw [e]
          refine .inr fun h => ?_
          have := HIN.out.1 _ h
          omega
  case rest =>
    obtain ⟨a6, q6, bx, ow, bel⟩ := hcut
    have m0 := bx.cell 0 (.slice a1 d.sec.length q1) rfl
    have m1 := bx.cell 1 (.slice a6 (d.cache.length + 1) q6) rfl
    have hsm : (⟨d.sec, d.cache ++ [⟨a, t⟩]⟩ : Dk).small := ⟨hs.1, by show (d.cache ++ [(⟨a, t⟩ : Wr)]).length ≤ _; simp; omega⟩
    have HHX := Lib.hid (And.intro (hx0.later bel) (hx1.later bel))
    have HH := Lib.hid (h'.later bel)
    have OW := Lib.hid ow
    have BX := Lib.hid bx
    have HSZ := Lib.hid hsz
    clear hx0 hx1 h h' o2 k2 k3 y3 s3 j3 h3 l1 l2 hap hin1 hin2 hsz bx
    go_wp2_with fail
    clear m0 m1
    refine (implDiskOk_any ⟨d.sec, d.cache ++ [⟨a, t⟩]⟩ _ _ ow.rd hsm).mono ?_
    rintro e w7 ⟨rfl, k7⟩
    rw [decide_eq_decide.2 (wrOk_iff d a t)]
    have bel7 := bel.trans (k7.mono bel.size)
    have x1 := HHX.out.2.later k7
    have r0 := x1.cell 0 (.slice none 0 0) rfl
    have r1 := x1.cell 1 (.slice none 0 0) rfl
    have f0 := x1.loose 0
    have f1 := x1.loose 1
    have hWl : Hid (w.heap.size + 1 < W.heap.size) := show _ < _ by have := HSZ.out; omega
    have bF := Lib.hid (b0.trans (bel7.mono b0.size))
    by_cases hw : wrOk d a t
    · have E2 := Lib.hid (show wrD d a t = ⟨d.sec, d.cache ++ [⟨a, t⟩]⟩ from if_pos hw)
      rw [decide_eq_true hw]
      have y7 := BX.out.later k7
      have m0 := y7.cell 0 (.slice a1 d.sec.length q1) rfl
      have m1 := y7.cell 1 (.slice a6 (d.cache.length + 1) q6) rfl
      have O7 := Lib.hid ((OW.out.later k7).widen (Nat.le_refl _) k7.size (Nat.le_refl _))
      clear y7 x1 bel bel7
      go_wp2
      refine bodyPost_ret (v := .tuple #[.agg #[.slice a1 d.sec.length q1, .slice a6 (d.cache.length + 1) q6], .bool true]) (by simp [results, Tryz.results99, go_sem, r0, r1]) rfl ?_
      rw [E2.out, decide_eq_true hw]
      exact ⟨_, rfl, ((O7.out.store (w.heap.size + 1) 0 (.slice a1 d.sec.length q1) hWl.out).store (w.heap.size + 1) 1 (.slice a6 (d.cache.length + 1) q6) hWl.out).widen (by have := hWl.out; omega) (by simp) (Nat.le_refl _), (bF.out.setCell (p := ⟨w.heap.size + 1, 0, none⟩) (by simp) _).setCell (p := ⟨w.heap.size + 1, 1, none⟩) (by simp) _⟩
    · have E2 := Lib.hid (show wrD d a t = d from if_neg hw)
      rw [decide_eq_false hw]
      have x7 := HHX.out.1.later k7
      have m0 := x7.cell 0 (.slice aa d.sec.length ca) rfl
      have m1 := x7.cell 1 (.slice ab d.cache.length cb) rfl
      have H7 := HH.out.later k7
      clear x7 r0 r1 f0 f1
      go_wp2_with fail
      clear m0 m1
      refine (copyDisk_any d _ B T _ H7 hs ht hu).mono ?_
      rintro e w8 ⟨v8, rfl, o8, k8⟩
      obtain ⟨a8, a9, q8, q9, rfl⟩ := o8.form
      have x8 := x1.later k8
      have r0 := x8.cell 0 (.slice none 0 0) rfl
      have r1 := x8.cell 1 (.slice none 0 0) rfl
      have f0 := x8.loose 0
      have f1 := x8.loose 1
      have b8 := Lib.hid (bF.out.trans (k8.mono bF.out.size))
      have O8 := Lib.hid o8
      have s7 : Hid (W.heap.size ≤ w7.heap.size) := bel7.size
      clear x8 x1 o8 bel bel7 H7 k8
      go_wp2
      refine bodyPost_ret (v := .tuple #[.agg #[.slice a8 d.sec.length q8, .slice a9 d.cache.length q9], .bool false]) (by simp [results, Tryz.results99, go_sem, r0, r1]) rfl ?_
      rw [E2.out, decide_eq_false hw]
      have hl7 : w.heap.size + 1 < w7.heap.size := Nat.lt_of_lt_of_le hWl.out s7.out
      exact ⟨_, rfl, ((O8.out.store (w.heap.size + 1) 0 (.slice a8 d.sec.length q8) hl7).store (w.heap.size + 1) 1 (.slice a9 d.cache.length q9) hl7).widen (by omega) (by simp) (Nat.le_refl _), (b8.out.setCell (p := ⟨w.heap.size + 1, 0, none⟩) (by simp) _).setCell (p := ⟨w.heap.size + 1, 1, none⟩) (by simp) _⟩

end Go.Proofs.YtgcnebepklelpaaGreatDoor

/- Disks: what the model's WriteBytes hands back of a right disk: a right disk of as many sectors. -/
namespace Go.Proofs.YtgcnebepklelpaaGreatDoor
open Go.RowKit

theorem Box.notRow {α : Type} {E : Enc α} {B : Nat} {w0 w : World} {v : Value} {l : List α} {g : Nat} {cs : Array Value} {t : TypeId} (h : Box w g cs t) (hr : RBuf E B w0 w v l) (ht : E.ty ≠ t) : v.ownBlock ≠ some g := by
  rcases hr.own.2 with ⟨rfl, _⟩ | ⟨g', cap, cur, rfl, _, hh, _⟩
  · intro e; cases e
  · intro e
    have : g' = g := Option.some.inj e
    subst this
    rw [show w.heap[g']? = _ from h] at hh
    simp only [Option.some.injEq, Obj.cells.injEq] at hh
    exact ht hh.2.1.symm

theorem DOwn.boxStore {B T : Nat} {w : World} {v : Value} {d : Dk} {g : Nat} {cs : Array Value} (h : DOwn B T w v d) (hb : Box w g cs 25) (i : Nat) (u : Value) : DOwn B T (w.setCell ⟨g, i, none⟩ u) v d := by
  obtain ⟨va, vb, hv, h1, h2, h3⟩ := h
  exact ⟨va, vb, hv, h1.grown (stored_grown _ _ _ _) (.inr (hb.notRow h1.1 (by decide))), h2.grown (stored_grown _ _ _ _) (.inr (hb.notRow h2.1 (by decide))), h3⟩

theorem DOwn.top {B T : Nat} {w : World} {v : Value} {d : Dk} (h : DOwn B T w v d) : DOwn B w.heap.size w v d := by
  obtain ⟨va, vb, hv, h1, h2, h3⟩ := h
  exact ⟨va, vb, hv, h1.wider h1.2.1 (Nat.le_refl _), h2.wider h2.2.1 (Nat.le_refl _), h3⟩
theorem DOwn.base {B B' T : Nat} {w : World} {v : Value} {d : Dk} (h : DOwn B T w v d) (hB : B' ≤ B) : DOwn B' T w v d := by
  obtain ⟨va, vb, hv, h1, h2, h3⟩ := h
  exact ⟨va, vb, hv, h1.deeper hB, h2.deeper hB, h3⟩

theorem Dk.ok_small {d : Dk} (h : d.ok) : d.small ∧ (∀ s ∈ d.sec, s.size ≤ 1099511627776) ∧ ∀ x ∈ d.cache, x.text.size ≤ 1099511627776 := by
  obtain ⟨h1, h2, h3, h4, h5⟩ := h
  exact ⟨⟨by omega, by omega⟩, fun s hs => by have := h4 s hs; omega, fun x hx => by have := (h5 x hx).2.2; omega⟩

theorem lastAt_mem' {c : List Wr} {a : Int} {t : ByteArray} (h : lastAt c a = some t) : ∃ x ∈ c, x.text = t := by
  induction c with
  | nil => cases h
  | cons x c ih =>
    unfold lastAt at h
    split at h
    · rename_i t' ht
      obtain ⟨y, hy, he⟩ := ih (by rw [ht]; exact h)
      exact ⟨y, by simp [hy], he⟩
    · split at h
      · exact ⟨x, by simp, Option.some.inj h⟩
      · cases h

theorem rdT_ok {d : Dk} (h : d.ok) (a : Int) : (¬ (0 ≤ a ∧ a < d.sec.length) ∧ rdT d a = .tuple #[.string ⟨#[]⟩, .bool false]) ∨ ∃ t : ByteArray, t.size = 32 ∧ (0 ≤ a ∧ a < d.sec.length) ∧ rdT d a = .tuple #[.string t, .bool true] := by
  by_cases hin : 0 ≤ a ∧ a < d.sec.length
  · refine .inr ?_
    cases hl : lastAt d.cache a with
    | some t =>
      obtain ⟨x, hx, rfl⟩ := lastAt_mem' hl
      exact ⟨_, (h.2.2.2.2 x hx).2.2, hin, rdT_last hin hl⟩
    | none =>
      obtain ⟨k, rfl⟩ := Int.eq_ofNat_of_zero_le hin.1
      have hk : k < d.sec.length := by omega
      exact ⟨d.sec[k], h.2.2.2.1 _ (List.getElem_mem hk), hin, rdT_sec hk hl⟩
  · exact .inl ⟨hin, rdT_no hin⟩

theorem wrD_ok {d : Dk} (h : d.ok) (a : Int) (t : ByteArray) : (wrD d a t).ok ∧ (wrD d a t).sec.length = d.sec.length := by
  unfold wrD
  split
  · rename_i hw; exact ⟨(wrOk_iff d a t).2 hw, rfl⟩
  · exact ⟨h, rfl⟩
theorem wrD_more (d : Dk) (a : Int) (t : ByteArray) : (wrD d a t).cache.length ≤ d.cache.length + 1 := by
  unfold wrD
  split
  · simp
  · omega

def WbQ (A i n : Nat) (d d' : Dk) : Prop := (i = 0 ∧ d'.cache.length = d.cache.length) ∨ (((A + i) % 32 = 0 ∨ i = n) ∧ d'.cache.length + A / 32 ≤ d.cache.length + (A + i + 31) / 32)
theorem WbQ.fin {A i n : Nat} {d d' : Dk} (h : WbQ A i n d d') (hi : i ≤ n) : d'.cache.length ≤ d.cache.length + (n + 62) / 32 := by
  unfold WbQ at h
  omega
theorem WbQ.next {A i n m : Nat} {d d' D : Dk} (h : WbQ A i n d d') (hi : i < n) (hm : 0 < m) (hfr : (A + i) % 32 + m ≤ 32) (he : (A + (i + m)) % 32 = 0 ∨ i + m = n) (hD : D.cache.length ≤ d'.cache.length + 1) : WbQ A (i + m) n d D := by
  unfold WbQ at h ⊢
  omega

structure WbI (w : World) (v1 v2 : Value) (b2 : Nat) (va vb : Value) (d d' : Dk) (B T : Nat) (X : World) : Prop where
  bel : Below w.heap.size w X
  inn : Box X w.heap.size #[v1, v2] 25
  res : Box X (w.heap.size + 1) #[.slice none 0 0, .slice none 0 0] 25
  out : Box X b2 #[va, vb] 25
  dsk : DOwn w.heap.size X.heap.size X (.agg #[va, vb]) d'
  was : DOwn B T X (.agg #[v1, v2]) d
  lt : w.heap.size + 1 < b2

theorem WbI.later {w : World} {v1 v2 : Value} {b2 : Nat} {va vb : Value} {d d' : Dk} {B T : Nat} {X Y : World} (h : WbI w v1 v2 b2 va vb d d' B T X) (hb : Below X.heap.size X Y) : WbI w v1 v2 b2 va vb d d' B T Y :=
  ⟨h.bel.trans (hb.mono h.bel.size), h.inn.later hb, h.res.later hb, h.out.later hb, (h.dsk.later hb).top, h.was.later hb, h.lt⟩

end Go.Proofs.YtgcnebepklelpaaGreatDoor

/- What the program's ReadSector hands back: a range over slices.Backward. -/
namespace Go.Proofs.YtgcnebepklelpaaGreatDoor
open Go.RowKit Go.Shelf

attribute [local go_sem] Oper.semAt_some

abbrev BkT := { p : Int × Wr // p.2.text.size ≤ 1099511627776 }
def bkV (c : List Wr) (j : Nat) : Int × Wr := ((c.length : Int) - 1 - (j : Int), (c[c.length - 1 - j]?).getD ⟨0, ⟨#[]⟩⟩)
theorem bkV_ok {c : List Wr} (hu : ∀ x ∈ c, x.text.size ≤ 1099511627776) (j : Nat) : (bkV c j).2.text.size ≤ 1099511627776 := by
  unfold bkV
  by_cases h : c.length - 1 - j < c.length
  · simp only [List.getElem?_eq_getElem h, Option.getD_some]
    exact hu _ (List.getElem_mem h)
  · simp only [List.getElem?_eq_none (Nat.le_of_not_lt h), Option.getD_none]
    exact Nat.zero_le _
def bkAt (c : List Wr) (hu : ∀ x ∈ c, x.text.size ≤ 1099511627776) (j : Nat) : BkT := ⟨bkV c j, bkV_ok hu j⟩
def bkTo (c : List Wr) (hu : ∀ x ∈ c, x.text.size ≤ 1099511627776) (k : Nat) : List BkT := (List.range k).map (bkAt c hu)
theorem bkTo_succ (c : List Wr) (hu : ∀ x ∈ c, x.text.size ≤ 1099511627776) (k : Nat) : bkTo c hu (k + 1) = bkTo c hu k ++ [bkAt c hu k] := by simp [bkTo, List.range_succ]
theorem bkTo_length (c : List Wr) (hu : ∀ x ∈ c, x.text.size ≤ 1099511627776) (k : Nat) : (bkTo c hu k).length = k := by simp [bkTo]
def bkE (x : BkT) : Array Value := #[.int .i64 x.1.1, .agg #[.int .i64 x.1.2.at_, .string x.1.2.text]]
theorem bkV_at {c : List Wr} {k : Nat} (hk : k < c.length) : bkV c k = ((c.length : Int) - 1 - (k : Int), c[c.length - 1 - k]'(by omega)) := by
  unfold bkV
  rw [List.getElem?_eq_getElem (by omega)]; rfl

set_option maxRecDepth 100000 in
set_option maxHeartbeats 2000000 in
theorem back1_in (n : Nat) (hn : 1 ≤ n) (l Bs n₀ b off cap : Nat) (c : List Wr) (hu : ∀ x ∈ c, x.text.size ≤ 1099511627776) (hl : c.length ≤ 1073741824) (hb : b < n₀) (J Jx : List BkT → World → Prop)
    (hY : ∀ pre x W, J pre W → pre.length < c.length → YieldAt Fence.wide (n - 1) Tryz.prog l (bkE x) W fun e W' =>
      (e = .returned (.bool true) ∧ J (pre ++ [x]) W' ∧ Below n₀ W W') ∨ (e = .returned (.bool false) ∧ Jx (pre ++ [x]) W'))
    (W : World) (hB : W.cell? ⟨Bs, 0, none⟩ = some (.slice (some ⟨b, off, none⟩) c.length cap)) (hBn : Bs < n₀)
    (hc : ∀ j (hj : j < c.length), W.cell? ⟨b, off + j * 2, none⟩ = some (.int .i64 c[j].at_) ∧ W.cell? ⟨b, off + j * 2 + 1, none⟩ = some (.string c[j].text)) (h0 : J [] W) :
    CallsIn Fence.wide n Tryz.prog 124 #[.func (.yield l) #[] #[], .pointer (some ⟨Bs, 0, none⟩)] W fun e W' => (∃ v, e = .returned v) ∧
      ((∃ ys, ys = bkTo c hu c.length ∧ J ys W') ∨ (∃ pre, (∃ k, k ≤ c.length ∧ pre = bkTo c hu k) ∧ Jx pre W')) := by
  refine callsIn_of_wp Tryz.func124 rfl trivial ?_ rfl
  simp only [Tryz.ntmps124, List.size_toArray, List.length_cons, List.length_nil, Nat.reduceAdd, Nat.reduceSub, Array.replicate_succ, Array.replicate_zero, List.push_toArray, List.append_toArray, List.nil_append, List.cons_append]
  gi_wp2
  gi_loopw [3] (fun i wr => ∃ k : Nat, k ≤ c.length ∧ i = .int .i64 ((c.length : Int) - 1 - (k : Int)) ∧ J (bkTo c hu k) wr ∧ Below n₀ W wr) (fun i _ => (intOf i + 1).toNat)
  case atStart => exact ⟨0, Nat.zero_le _, by simp, h0, Below.refl _ _⟩
  case round =>
    obtain ⟨k, hk, rfl, hJs, hnx⟩ := hrel
    by_cases hlt : k < c.length
    · obtain ⟨m, hm⟩ : ∃ m : Nat, m = c.length - 1 - k := ⟨_, rfl⟩
      have hml : m < c.length := by omega
      have hmi : (c.length : Int) - 1 - (k : Int) = (m : Int) := by omega
      have hbk : bkE (bkAt c hu k) = #[.int .i64 (m : Int), .agg #[.int .i64 c[m].at_, .string c[m].text]] := by
        unfold bkE bkAt
        simp only [bkV_at hlt, hmi]
        subst hm
        rfl
      obtain ⟨q0, q1⟩ := hc m hml
      have d0 := (hnx.cell (p := ⟨b, off + m * 2, none⟩) hb).trans q0
      have d1 := (hnx.cell (p := ⟨b, off + m * 2 + 1, none⟩) hb).trans q1
      have dB := (hnx.cell (p := ⟨Bs, 0, none⟩) hBn).trans hB
      have hsu := Lib.hid (bkTo_succ c hu k)
      obtain ⟨fn, tmps, assign, body, hy, hR⟩ := hY _ (bkAt c hu k) wr hJs (by rw [bkTo_length]; exact hlt)
      rw [hbk] at hy
      clear q0 q1
      have HJ : Hid (∀ W, J (bkTo c hu k ++ [bkAt c hu k]) W → J (bkTo c hu (k + 1)) W) := fun W h => by rw [hsu.out]; exact h
      generalize c[m] = x at *
      obtain ⟨na, t⟩ := x
      simp only at d0 d1 hy
      rw [hmi]
      have hm0 : (0 : Int) ≤ (m : Int) := by omega
      have hm1 : (m : Int) < (c.length : Int) := by omega
      have HM := Lib.hid hmi
      clear hmi hbk hm
      gi_wp2
      refine hR.mono ?_
      rintro e W3 (⟨rfl, hJ3, hk3⟩ | ⟨rfl, hJx3⟩)
      · gi_wp2
        go_roundw
        case rel => exact ⟨k + 1, by omega, by have := HM.out; simp; omega, HJ.out _ hJ3, hnx.trans hk3⟩
        case measure => simp [intOf]
      · gi_wp2
        refine bodyPost_ret (results_none rfl _ _ _) rfl ?_
        exact ⟨⟨_, rfl⟩, .inr ⟨_, ⟨k + 1, by omega, hsu.out.symm⟩, hJx3⟩⟩
    · obtain rfl : k = c.length := by omega
      gi_wp2
      go_end0
      exact ⟨⟨_, rfl⟩, .inl ⟨_, rfl, hJs⟩⟩

set_option maxRecDepth 100000 in
set_option maxHeartbeats 1000000 in
theorem back1_nil_in (n : Nat) (l Bs cap : Nat) (a : Option Addr) (J : List BkT → World → Prop) (W : World) (hB : W.cell? ⟨Bs, 0, none⟩ = some (.slice a 0 cap)) (h0 : J [] W) :
    CallsIn Fence.wide n Tryz.prog 124 #[.func (.yield l) #[] #[], .pointer (some ⟨Bs, 0, none⟩)] W fun e W' => (∃ v, e = .returned v) ∧ J [] W' := by
  refine callsIn_of_wp Tryz.func124 rfl trivial ?_ rfl
  simp only [Tryz.ntmps124, List.size_toArray, List.length_cons, List.length_nil, Nat.reduceAdd, Nat.reduceSub, Array.replicate_succ, Array.replicate_zero, List.push_toArray, List.append_toArray, List.nil_append, List.cons_append]
  gi_wp2
  gi_loopw [3] (fun i wr => i = .int .i64 (-1) ∧ J [] wr) (fun _ _ => 0)
  case atStart => exact ⟨rfl, h0⟩
  case round =>
    obtain ⟨rfl, hJs⟩ := hrel
    gi_wp2
    go_end0
    exact ⟨⟨_, rfl⟩, hJs⟩

theorem back_stops (n : Nat) (hn : 1 ≤ n) (Bs : Nat) (v : Value) (c : List Wr) (hu : ∀ x ∈ c, x.text.size ≤ 1099511627776) (hl : c.length ≤ 1073741824) (w : World) (hBs : Bs < w.heap.size) (hc : w.cell? ⟨Bs, 0, none⟩ = some v) (hr : Rows' wrE w v c) :
    SeqStopsK Fence.wide n Tryz.prog 124 #[.pointer (some ⟨Bs, 0, none⟩)] bkE (Below w.heap.size) (fun ys => ys = bkTo c hu c.length) (fun pre => ∃ k, k ≤ c.length ∧ pre = bkTo c hu k) c.length w := fun l J Jx W hW _ _ hY h0 => by
  have hc' := (hW.cell (p := ⟨Bs, 0, none⟩) hBs).trans hc
  rcases hr.ways with ⟨rfl, a, cap, rfl⟩ | ⟨_, b, off, cap, rfl, _, hb, hcs⟩
  · exact (back1_nil_in n l Bs cap a J W hc' h0).mono fun e W' ⟨he, hj⟩ => ⟨he, .inl ⟨_, rfl, hj⟩⟩
  · refine back1_in n hn l Bs w.heap.size b off cap c hu hl hb J Jx hY W hc' hBs (fun j hj => ?_) h0
    have q := List.getElem?_eq_getElem hj
    have q0 := hcs j _ q 0 (.int .i64 c[j].at_) rfl
    have q1 := hcs j _ q 1 (.string c[j].text) rfl
    exact ⟨(hW.cell (p := ⟨b, off + j * 2, none⟩) hb).trans q0, (hW.cell (p := ⟨b, off + j * 2 + 1, none⟩) hb).trans q1⟩

set_option maxHeartbeats 1000000 in
theorem back_in (n : Nat) (a : Option Addr) (len cap : Nat) (w : World) :
    CallsIn Fence.wide n Tryz.prog 116 #[.slice a len cap] w fun e w' => e = .returned (.func (.func 124) #[] #[.pointer (some ⟨w.heap.size, 0, none⟩)]) ∧ w' = w.alloc (.cells #[.slice a len cap] 23) := by
  refine callsIn_of_wp Tryz.func116 rfl trivial ?_ rfl
  simp only [Tryz.ntmps116, List.size_toArray, List.length_cons, List.length_nil, Nat.reduceAdd, Nat.reduceSub, Array.replicate_succ, Array.replicate_zero, List.push_toArray, List.append_toArray, List.nil_append, List.cons_append]
  gi_wp2
  go_ret
  exact ⟨rfl, rfl⟩

theorem lastAt_none_of {c : List Wr} (hu : ∀ x ∈ c, x.text.size ≤ 1099511627776) {a : Int} {k : Nat} (hk : k ≤ c.length) (h : ∀ p ∈ bkTo c hu k, p.1.2.at_ ≠ a) : lastAt c a = lastAt (c.take (c.length - k)) a := by
  induction k with
  | zero => simp
  | succ k ih =>
    rw [bkTo_succ] at h
    rw [ih (by omega) (fun p hp => h p (List.mem_append.2 (.inl hp)))]
    have hi : c.length - 1 - k < c.length := by omega
    have e : c.length - k = c.length - 1 - k + 1 := by omega
    have := h (bkAt c hu k) (List.mem_append.2 (.inr (by simp)))
    have hv : (bkAt c hu k).1 = _ := bkV_at (by omega)
    rw [hv] at this
    rw [e, lastAt_take hi, if_neg this]
    congr 2
    omega

theorem lastAt_of_hit {c : List Wr} (hu : ∀ x ∈ c, x.text.size ≤ 1099511627776) {a : Int} {k : Nat} (hk : k < c.length) (h : ∀ p ∈ bkTo c hu k, p.1.2.at_ ≠ a) (ha : (bkAt c hu k).1.2.at_ = a) : lastAt c a = some (bkAt c hu k).1.2.text := by
  rw [lastAt_none_of hu (by omega) h]
  have hi : c.length - 1 - k < c.length := by omega
  have e : c.length - k = c.length - 1 - k + 1 := by omega
  have hv : (bkAt c hu k).1 = _ := bkV_at hk
  rw [hv] at ha ⊢
  rw [e, lastAt_take hi, if_pos ha]

set_option maxRecDepth 100000 in
set_option maxHeartbeats 4000000 in
theorem implReadSector_any (d : Dk) (v : Value) (a : Int) (w : World) (h : DRd w v d) (hs : d.small) (ht : ∀ s ∈ d.sec, s.size ≤ 1099511627776) (hu : ∀ x ∈ d.cache, x.text.size ≤ 1099511627776) :
    Calls Tryz.prog 97 #[v, .int .i64 a] w fun e w' => e = .returned (rdT d a) ∧ Below w.heap.size w w' := by
  obtain ⟨aa, ab, ca, cb, rfl, ha, hb⟩ := h.form
  obtain ⟨s1, s2⟩ := hs
  by_cases hin : 0 ≤ a ∧ a < d.sec.length
  · refine (callsIn_wide (n := 5)).1 ?_
    refine callsIn_of_wp_marks Tryz.func97 rfl trivial ?_ rfl
    simp only [Tryz.ntmps97, List.size_toArray, List.length_cons, List.length_nil, Nat.reduceAdd, Nat.reduceSub, Array.replicate_succ, Array.replicate_zero, List.push_toArray, List.append_toArray, List.nil_append, List.cons_append]
    have hi0 : (0 : Int) ≤ a := hin.1
    have hi1 : a < (d.sec.length : Int) := hin.2
    gi_wp2_with (refine ⟨trivial, ?_⟩; gi_at_call 116; refine (back_in _ _ _ _ _).mono ?_; rintro e w' ⟨rfl, rfl⟩)
    obtain ⟨W0, hW0⟩ : ∃ W0, (((((w.alloc (.cells #[.slice aa d.sec.length ca, .slice ab d.cache.length cb] 25)).alloc (.cells #[.int .i64 a] 3)).alloc (.cells #[.string ⟨#[]⟩] 9)).alloc (.cells #[.bool false] 4)).alloc (.cells #[.slice ab d.cache.length cb] 23)) = W0 := ⟨_, rfl⟩
    have hsz : W0.heap.size = w.heap.size + 5 := by rw [← hW0]; simp
    have hB0 : Below w.heap.size w W0 := by rw [← hW0]; exact (((((Below.refl _ w).alloc (Nat.le_refl _) _).alloc (by simp) _).alloc (by simp; omega) _).alloc (by simp; omega) _).alloc (by simp; omega) _
    have c0 : W0.cell? ⟨w.heap.size, 0, none⟩ = some (.slice aa d.sec.length ca) := by rw [← hW0]; simp [go_sem]
    have bA : Boxed W0 (w.heap.size + 1) 3 (.int .i64 a) := by
      rw [← hW0]
      have := ((((Boxed.new (w.alloc (.cells #[.slice aa d.sec.length ca, .slice ab d.cache.length cb] 25)) 3 (.int .i64 a)).alloc (.cells #[.string ⟨#[]⟩] 9)).alloc (.cells #[.bool false] 4)).alloc (.cells #[.slice ab d.cache.length cb] 23))
      simpa using this
    have bS : Boxed W0 (w.heap.size + 1 + 1) 9 (.string ⟨#[]⟩) := by
      rw [← hW0]
      have := (((Boxed.new ((w.alloc (.cells #[.slice aa d.sec.length ca, .slice ab d.cache.length cb] 25)).alloc (.cells #[.int .i64 a] 3)) 9 (.string ⟨#[]⟩)).alloc (.cells #[.bool false] 4)).alloc (.cells #[.slice ab d.cache.length cb] 23))
      simpa using this
    have bB : Boxed W0 (w.heap.size + 1 + 1 + 1) 4 (.bool false) := by
      rw [← hW0]
      have := ((Boxed.new (((w.alloc (.cells #[.slice aa d.sec.length ca, .slice ab d.cache.length cb] 25)).alloc (.cells #[.int .i64 a] 3)).alloc (.cells #[.string ⟨#[]⟩] 9)) 4 (.bool false)).alloc (.cells #[.slice ab d.cache.length cb] 23))
      simpa using this
    have bC : W0.cell? ⟨w.heap.size + 1 + 1 + 1 + 1, 0, none⟩ = some (.slice ab d.cache.length cb) := by rw [← hW0]; simp [go_sem]
    rw [hW0]
    clear hW0
    refine wpIn_rangeFunc_ownH rfl (by omega) (gf := 124) (lb := #[.pointer (some ⟨w.heap.size + 1 + 1 + 1 + 1, 0, none⟩)]) rfl trivial (enters_of Tryz.func124 (by kernel_rfl) rfl)
      (back_stops 4 (by omega) (w.heap.size + 1 + 1 + 1 + 1) _ d.cache hu s2 W0 (by omega) bC (hb.later hB0)) belowK_t (belowK_b (Nat.le_refl _)) (Below.refl _ _) (fun _ => rfl)
      (fun pre W => ((∀ p ∈ pre, p.1.2.at_ ≠ a) ∧ w.heap.size + 5 ≤ W.heap.size ∧ W.cell? ⟨w.heap.size, 0, none⟩ = some (.slice aa d.sec.length ca) ∧ Boxed W (w.heap.size + 1) 3 (.int .i64 a) ∧ Boxed W (w.heap.size + 1 + 1) 9 (.string ⟨#[]⟩) ∧ Boxed W (w.heap.size + 1 + 1 + 1) 4 (.bool false)) ∧ Below w.heap.size w W)
      (fun c pre W => (c = .ret ∧ ∃ ini last, pre = ini ++ [last] ∧ (∀ p ∈ ini, p.1.2.at_ ≠ a) ∧ last.1.2.at_ = a ∧ Boxed W (w.heap.size + 1 + 1) 9 (.string last.1.2.text) ∧ Boxed W (w.heap.size + 1 + 1 + 1) 4 (.bool true)) ∧ Below w.heap.size w W)
      ?hI ?hIx ?h0
      (fun x a' W => ∃ Bx, w.heap.size + 5 ≤ Bx ∧ W.cell? ⟨Bx, 0, none⟩ = some (.int .i64 x.1.2.at_) ∧ W.cell? ⟨Bx, 1, none⟩ = some (.string x.1.2.text) ∧ a' = { tmps := #[.agg #[.slice aa d.sec.length ca, .slice ab d.cache.length cb], .int .i64 a, .pointer (some ⟨w.heap.size, 0, none⟩), .pointer (some ⟨w.heap.size + 1, 0, none⟩), .pointer (some ⟨w.heap.size + 1 + 1, 0, none⟩), .pointer (some ⟨w.heap.size + 1 + 1 + 1, 0, none⟩), undef, .pointer (some ⟨Bx, 0, none⟩), .int .i64 a, .bool (decide (a < 0)), .bool (decide (a < 0)), .int .i64 a, .pointer (some ⟨w.heap.size, 0, none⟩), .slice aa d.sec.length ca, .int .i64 (d.sec.length : Int), .bool (decide ((d.sec.length : Int) ≤ a)), .bool (decide (a < 0) || decide ((d.sec.length : Int) ≤ a)), .pointer (some ⟨w.heap.size, 1, none⟩), .slice ab d.cache.length cb, .func (.func 124) #[] #[.pointer (some ⟨w.heap.size + 1 + 1 + 1 + 1, 0, none⟩)], .int .i64 x.1.1, .agg #[.int .i64 x.1.2.at_, .string x.1.2.text], undef, undef, undef, undef, undef, undef, undef, undef, undef, undef, undef, undef, undef], defers := [] })
      ?hAx ?assign ?body ?done ?stop
    case hI =>
      rintro s X Y row ⟨⟨i1, i0, i2, i3, i4, i5⟩, i6⟩ hg hr
      have ne : ∀ b, b < W0.heap.size → some b ≠ row := fun b hb e => by have := (hr b e.symm).1; omega
      exact ⟨⟨i1, Nat.le_trans i0 hg.size, hg.cell i2 (ne _ (by simp; omega)), i3.kept hg (ne _ (by omega)), i4.kept hg (ne _ (by omega)), i5.kept hg (ne _ (by omega))⟩, i6.grown hg i6.size (fun k hk => by have := (hr k hk).1; omega)⟩
    case hIx =>
      rintro c s X Y row ⟨⟨e0, ini, last, e1, e2, e3, e4, e5⟩, i6⟩ hg hr
      have ne : ∀ b, b < W0.heap.size → some b ≠ row := fun b hb e => by have := (hr b e.symm).1; omega
      exact ⟨⟨e0, ini, last, e1, e2, e3, e4.kept hg (ne _ (by omega)), e5.kept hg (ne _ (by omega))⟩, i6.grown hg i6.size (fun k hk => by have := (hr k hk).1; omega)⟩
    case h0 => exact ⟨⟨by simp, by omega, c0, bA, bS, bB⟩, hB0⟩
    case hAx =>
      rintro x a' _ X Y row ⟨Bx, q1, q2, q3, q4⟩ hg hr
      exact ⟨Bx, q1, cell_kept q2 hg (fun r e => (hr r e).2), cell_kept q3 hg (fun r e => (hr r e).2), q4⟩
    case assign =>
      rintro l pre x W K ⟨⟨i1, i0, i2, i3, i4, i5⟩, i6⟩ hK
      simp only [bkE]
      gi_wp2
      have bN := Box.new W #[.int .i64 x.1.2.at_, .string x.1.2.text] 104
      exact hK _ _ ((KeepsOthers.alloc _ _).from _) ((Below.refl _ W).alloc (by omega) _) ⟨⟨i1, by simp; omega, (((Below.refl W.heap.size W).alloc (Nat.le_refl _) _).cell (p := ⟨w.heap.size, 0, none⟩) (World.block_lt_of_cell? _ _ i2)).trans i2, i3.alloc _, i4.alloc _, i5.alloc _⟩, i6.alloc i6.size _⟩ ⟨W.heap.size, i0, bN.cell 0 _ rfl, bN.cell 1 _ rfl, rfl⟩
    case body =>
      rintro l pre x a' W hl ⟨r, hr⟩ ⟨⟨i1, i0, i2, i3, i4, i5⟩, i6⟩ ⟨Bx, hBx, x0, x1, rfl⟩ hlt
      have c3 := i3.cell
      have hxs := x.2
      by_cases hxa : x.1.2.at_ = a
      · have hq : (x.1.2.at_ == a) = true := by simp [hxa]
        have HB1 : Hid (∀ w1 : World, Below W.heap.size W w1 → Boxed w1 (w.heap.size + 1 + 1) 9 (.string ⟨#[]⟩) ∧ Boxed w1 (w.heap.size + 1 + 1 + 1) 4 (.bool false) ∧ Below w.heap.size w w1 ∧ KeepsFrom W0.heap.size W w1) :=
          fun w1 k1 => ⟨(k1.block _ i4.lt).trans i4, (k1.block _ i5.lt).trans i5, i6.trans (k1.mono i6.size), KeepsFrom.of_grownBy (row := none) ⟨k1.os, k1.tape, k1.output, k1.size, fun k hk _ => k1.block k hk⟩ (fun j e => by cases e)⟩
        have HX := Lib.hid hxa
        have HI1 := Lib.hid i1
        clear i4 i5 i6 hxa i1
        gi_wp2_with (refine ⟨trivial, ?_⟩; gi_at_call 115; refine (CallsIn.inRound l (callsIn_wide.2 (clone_any _ _ (by omega)))).mono ?_; rintro e w1 ⟨rfl, k1⟩; obtain ⟨g4, g5, g6, g7⟩ := HB1.out w1 k1; have z4 := g4.cell; have f4 := g4.frozen; have z5 := g5.cell; have f5 := g5.frozen)
        refine ⟨g7.trans (((KeepsOthers.setCell _ _ _).from _).trans ((KeepsOthers.setCell _ _ _).from _)), ⟨rfl, pre, x, rfl, HI1.out, HX.out, ?_, ?_⟩, ?_⟩
        · exact (g4.set _).other (by omega) _
        · exact (g5.other (by omega) _).set _
        · exact (g6.setCell (p := ⟨w.heap.size + 1 + 1, 0, none⟩) (by simp; omega) _).setCell (p := ⟨w.heap.size + 1 + 1 + 1, 0, none⟩) (by simp; omega) _
      · have hq : (x.1.2.at_ == a) = false := by simp [hxa]
        have HX := Lib.hid hxa
        clear hxa
        gi_wp2
        exact ⟨KeepsFrom.refl _ _, Below.refl _ _, ⟨fun p hp => (List.mem_append.1 hp).elim (i1 p) (fun e => by simp at e; subst e; exact HX.out), i0, i2, i3, i4, i5⟩, i6⟩
    case done =>
      rintro D ys W hD rfl ⟨⟨i1, i0, i2, i3, i4, i5⟩, i6⟩ hK
      have hnone : lastAt d.cache a = none := by
        rw [lastAt_none_of hu (Nat.le_refl _) i1]; simp [lastAt]
      obtain ⟨k, rfl⟩ := Int.eq_ofNat_of_zero_le hi0
      have hk : k < d.sec.length := by omega
      obtain ⟨g, rfl, hcs⟩ := (ha.later i6).at k hk
      have HZ := Lib.hid (rdT_sec hk hnone)
      have htz := ht _ (List.getElem_mem hk)
      have c3 := i3.cell
      have HB1 : Hid (∀ w1 : World, Below W.heap.size W w1 → Boxed w1 (w.heap.size + 1 + 1) 9 (.string ⟨#[]⟩) ∧ Boxed w1 (w.heap.size + 1 + 1 + 1) 4 (.bool false) ∧ Below w.heap.size w w1 ∧ w1.heap[D]? = some (.deferred (some []))) :=
        fun w1 k1 => ⟨(k1.block _ i4.lt).trans i4, (k1.block _ i5.lt).trans i5, i6.trans (k1.mono i6.size), (k1.block _ (Array.getElem?_eq_some_iff.1 hK).1).trans hK⟩
      clear i4 i5 i6 i1 hnone hK ht hu
      generalize d.sec[k] = t at *
      gi_wp2_with (refine ⟨trivial, ?_⟩; gi_at_call 115; refine (callsIn_wide.2 (clone_any _ _ (by omega))).mono ?_; rintro e w1 ⟨rfl, k1⟩; obtain ⟨g4, g5, g6, g7⟩ := HB1.out w1 k1; have z4 := g4.cell; have f4 := g4.frozen; have z5 := g5.cell; have f5 := g5.frozen)
      have G4 := (g4.set (.string t)).other (B' := w.heap.size + 1 + 1 + 1) (by omega) (.bool true)
      have G5 := (g5.other (B' := w.heap.size + 1 + 1) (by omega) (.string t)).set (.bool true)
      have GK := (KeepsOthers.setCell (w1.setCell ⟨w.heap.size + 1 + 1, 0, none⟩ (.string t)) ⟨w.heap.size + 1 + 1 + 1, 0, none⟩ (.bool true)).same D _ ((KeepsOthers.setCell w1 ⟨w.heap.size + 1 + 1, 0, none⟩ (.string t)).same D _ g7 rfl) rfl
      refine ⟨by simp, .inl ⟨_, _, rfl, run_takeDeferred GK, ?_⟩⟩
      have q4 := (G4.kept (grownBy_putObj' _ D (.deferred none)) (by simp; omega)).cell
      have q5 := (G5.kept (grownBy_putObj' _ D (.deferred none)) (by simp; omega)).cell
      have b6 := (g6.setCell (p := ⟨w.heap.size + 1 + 1, 0, none⟩) (by simp; omega) (.string t)).setCell (p := ⟨w.heap.size + 1 + 1 + 1, 0, none⟩) (by simp; omega) (.bool true)
      refine ⟨.tuple #[.string t, .bool true], ?_, by rw [HZ.out], b6.trans (belowK_b (w := w) (Nat.le_refl _) _ D _ _ (by omega) GK rfl rfl)⟩
      simp [results, Tryz.f97, go_sem, q4, q5]
    case stop =>
      rintro D c pre W hD ⟨k, hk, rfl⟩ ⟨⟨rfl, ini, last, e1, e2, e3, e4, e5⟩, i6⟩ hK
      gi_wp2
      refine ⟨by simp, .inl ⟨_, _, rfl, run_takeDeferred hK, ?_⟩⟩
      have q4 := (e4.kept (grownBy_putObj' _ D (.deferred none)) (by simp; omega)).cell
      have q5 := (e5.kept (grownBy_putObj' _ D (.deferred none)) (by simp; omega)).cell
      obtain ⟨k', rfl⟩ : ∃ k', k = k' + 1 := by
        cases k with
        | zero => simp [bkTo] at e1
        | succ k' => exact ⟨k', rfl⟩
      rw [bkTo_succ] at e1
      obtain ⟨rfl, e6⟩ := List.append_inj' e1 rfl
      obtain rfl : bkAt d.cache hu k' = last := by simpa using e6
      have HZ := rdT_last hin (lastAt_of_hit hu (by omega) e2 e3)
      refine ⟨.tuple #[.string (bkAt d.cache hu k').1.2.text, .bool true], ?_, by rw [HZ], i6.trans (belowK_b (w := w) (Nat.le_refl _) W D _ _ (by omega) hK rfl rfl)⟩
      simp [results, Tryz.f97, go_sem, q4, q5]
  · have HZ := Lib.hid (rdT_no hin)
    have hB0 := Lib.hid ((((((Below.refl _ w).alloc (Nat.le_refl _) (.cells #[.slice aa d.sec.length ca, .slice ab d.cache.length cb] 25)).alloc (by simp) (.cells #[.int .i64 a] 3)).alloc (by simp; omega) (.cells #[.string ⟨#[]⟩] 9)).alloc (by simp; omega) (.cells #[.bool false] 4)))
    clear ha hb h
    go_enter Tryz.func97, Tryz.ntmps97
    go_wp2
    all_goals
      refine bodyPost_ret (v := .tuple #[.string ⟨#[]⟩, .bool false]) (by simp [results, Tryz.results97, go_sem]) rfl ?_
      exact ⟨by rw [HZ.out], hB0.out⟩

end Go.Proofs.YtgcnebepklelpaaGreatDoor

/- strings.Builder: what WriteString and String hand back: String out of the library's own theorem, at the numbers of this program; copyCheck and WriteString walked. -/
namespace Go.Proofs.YtgcnebepklelpaaGreatDoor
open Go.Shelf Go.RowKit

def bldRen : Go.Shelf.Ren := ⟨fun | 169 => 95 | n => n, fun | 70 => 143 | 9 => 9 | 0 => 0 | 72 => 145 | 37 => 134 | 127 => 173 | 3 => 3 | 5 => 5 | n => n, fun | n => n⟩

theorem bldLaid : Go.Proofs.Lays.n169 Tryz.prog bldRen := {
  mixed := by kernel_rfl
  f169 := Tryz.func95.trans (congrArg some (by kernel_rfl))
  t0 := Tryz.underlying0
  a0 := Tryz.isAgg0
  z0 := Tryz.sizeOf0
  v0 := Tryz.zeroValue0
  t3 := Tryz.underlying3
  a3 := Tryz.isAgg3
  z3 := Tryz.sizeOf3
  v3 := Tryz.zeroValue3
  t9 := Tryz.underlying9
  a9 := Tryz.isAgg9
  z9 := Tryz.sizeOf9
  v9 := Tryz.zeroValue9
  t37 := Tryz.underlying134
  a37 := Tryz.isAgg134
  z37 := Tryz.sizeOf134
  v37 := Tryz.zeroValue134
  t70 := Tryz.underlying143
  a70 := Tryz.isAgg143
  z70 := Tryz.sizeOf143
  v70 := Tryz.zeroValue143
  t72 := Tryz.underlying145
  a72 := Tryz.isAgg145
  z72 := Tryz.sizeOf145
  v72 := Tryz.zeroValue145
  t127 := Tryz.underlying173
  a127 := Tryz.isAgg173
  z127 := Tryz.sizeOf173
  v127 := Tryz.zeroValue173 }

theorem bldExtra : Builder.Extra Tryz.prog bldRen := {
  sizeBuilder := by kernel_rfl
  liesBuilder := by kernel_rfl
  t5 := Tryz.underlying5
  a5 := Tryz.isAgg5
  z5 := Tryz.sizeOf5
  v5 := Tryz.zeroValue5
  infoByte := by kernel_rfl
  cellsByte := by kernel_rfl
  sizeByte := by kernel_rfl
  neB5 := by decide }

theorem bldString (B b : Nat) (l : List UInt8) (w : World) (h : Lib.IsBuilder 145 5 B b (Lib.byteCells l) w) (hBw : B ≤ w.heap.size) :
    Calls Tryz.prog 95 #[.pointer (some ⟨b, 0, none⟩)] w fun e w' => e = .returned (.string ⟨l.toArray⟩) ∧ Below B w w' := Any.Builder_String_any bldLaid bldExtra B b l w h hBw

set_option maxHeartbeats 1000000 in
set_option maxRecDepth 100000 in
theorem copyCheck_used (b : Nat) (w : World) (h0 : w.cell? ⟨b, 0, none⟩ = some (.pointer (some ⟨b, 0, none⟩))) :
    Calls Tryz.prog 112 #[.pointer (some ⟨b, 0, none⟩)] w fun e w' => e = .returned (.tuple #[]) ∧ w' = w := by
  obtain ⟨j, hj, _⟩ := Option.map_eq_some_iff.1 bldExtra.sizeBuilder
  go_enter Tryz.func112, Tryz.ntmps112
  go_wp2
  rw [Lib.run_neq_ptr_same w _ Tryz.underlying143 hj]
  go_wp2
  go_end0
  exact ⟨rfl, rfl⟩

set_option maxHeartbeats 1000000 in
set_option maxRecDepth 100000 in
theorem copyCheck_fresh (b : Nat) (w : World) (h0 : w.cell? ⟨b, 0, none⟩ = some (.pointer none)) (hsh : w.shape? b = some (145, 2)) (hfz : w.frozen? ⟨b, 0, none⟩ = false) :
    Calls Tryz.prog 112 #[.pointer (some ⟨b, 0, none⟩)] w fun e w' => e = .returned (.tuple #[]) ∧ w' = w.setCell ⟨b, 0, none⟩ (.pointer (some ⟨b, 0, none⟩)) := by
  obtain ⟨j, hj, hjs⟩ := Option.map_eq_some_iff.1 bldExtra.sizeBuilder
  go_enter Tryz.func112, Tryz.ntmps112
  go_wp2
  rw [Lib.run_to_unsafe w ⟨b, 0, none⟩ Tryz.underlying143 Tryz.underlying115 hj (by rw [hjs]; decide) hsh (Nat.zero_lt_succ 1)]
  simp only [Result.andThen]
  rw [Oper.upon_value]
  go_wp2
  rw [run_callFunc_extern Tryz.func122 (by kernel_rfl) (by kernel_rfl) (by kernel_rfl) (e := Extern.AbiNoEscape.same) (by kernel_rfl)]
  rw [Lib.run_noEscape]
  simp only [Result.andThen]
  rw [Oper.upon_value]
  go_wp2
  rw [Lib.run_from_unsafe w ⟨b, 0, none⟩ Tryz.underlying115 Tryz.underlying143 hj hsh bldExtra.liesBuilder]
  simp only [Result.andThen]
  rw [Oper.upon_value]
  go_wp2
  go_end0
  exact ⟨rfl, rfl⟩

end Go.Proofs.YtgcnebepklelpaaGreatDoor

/- What SectorText hands back, the model's and the program's. -/
namespace Go.Proofs.YtgcnebepklelpaaGreatDoor
open Go.RowKit

def rdO (d : Dk) (a : Int) : Option ByteArray := if 0 ≤ a ∧ a < d.sec.length then some ((lastAt d.cache a).getD (d.sec.getD a.toNat ⟨#[]⟩)) else none
theorem rdT_some {d : Dk} {a : Int} {t : ByteArray} (h : rdO d a = some t) : rdT d a = .tuple #[.string t, .bool true] := by
  unfold rdO at h
  unfold rdT
  split at h
  · rename_i hc; rw [if_pos hc, Option.some.inj h]
  · cases h
theorem rdT_none {d : Dk} {a : Int} (h : rdO d a = none) : rdT d a = .tuple #[.string ⟨#[]⟩, .bool false] := by
  unfold rdO at h
  unfold rdT
  split at h
  · cases h
  · rename_i hc; rw [if_neg hc]
end Go.Proofs.YtgcnebepklelpaaGreatDoor

/- Plain facts on bytes that are written over sectors: what WriteBytes makes of a disk, and what is read there. -/
namespace Go.Proofs.YtgcnebepklelpaaGreatDoor
open Go.RowKit

def wbS (d : Dk) (k fr : Nat) (t : List UInt8) : ByteArray := ⟨(splice (secL ((rdO d (k : Int)).getD ⟨#[]⟩)) fr (t.take (32 - fr))).toArray⟩

def wbL (d : Dk) (k fr : Nat) (t : List UInt8) : Option Dk :=
  match t with
  | [] => some d
  | x :: l => if wrOk d (k : Int) (wbS d k fr (x :: l)) then wbL (wrD d (k : Int) (wbS d k fr (x :: l))) (k + 1) 0 (l.drop (31 - fr)) else none
termination_by t.length
decreasing_by simp; omega

theorem wbL_nil (d : Dk) (k fr : Nat) : wbL d k fr [] = some d := by rw [wbL]
theorem wbL_go {d : Dk} {k fr : Nat} {t : List UInt8} (ht : t ≠ []) (hf : fr < 32) (h : wrOk d (k : Int) (wbS d k fr t)) : wbL d k fr t = wbL (wrD d (k : Int) (wbS d k fr t)) (k + 1) 0 (t.drop (32 - fr)) := by
  cases t with
  | nil => exact absurd rfl ht
  | cons x l =>
    rw [wbL, if_pos h]
    have : 32 - fr = (31 - fr) + 1 := by omega
    rw [this, List.drop_succ_cons]
theorem wbL_stop {d : Dk} {k fr : Nat} {t : List UInt8} (ht : t ≠ []) (h : ¬ wrOk d (k : Int) (wbS d k fr t)) : wbL d k fr t = none := by
  cases t with
  | nil => exact absurd rfl ht
  | cons x l => rw [wbL, if_neg h]

theorem splice_get {α : Type} {l m : List α} {o : Nat} (h : o + m.length ≤ l.length) (r : Nat) : (splice l o m)[r]? = if o ≤ r ∧ r < o + m.length then m[r - o]? else l[r]? := by
  unfold splice
  have h1 : (l.take o).length = o := by rw [List.length_take]; omega
  by_cases hr : r < o
  · rw [if_neg (by omega), List.getElem?_append_left (by omega), List.getElem?_take, if_pos hr]
  · rw [List.getElem?_append_right (by omega), h1]
    by_cases hr2 : r < o + m.length
    · rw [if_pos (by omega), List.getElem?_append_left (by omega)]
    · rw [if_neg (by omega), List.getElem?_append_right (by omega), List.getElem?_drop]
      congr 1
      omega

theorem secL_eq {t : ByteArray} (h : t.size = 32) : secL t = t.data.toList := by
  have hl : t.data.toList.length = 32 := by rw [Array.length_toList]; exact h
  unfold secL splice
  rw [List.take_of_length_le (l := t.data.toList) (by omega), hl]
  simp

end Go.Proofs.YtgcnebepklelpaaGreatDoor

/- The model's way to write bytes, plainly: step by step it is wbL. -/
namespace Go.Proofs.YtgcnebepklelpaaGreatDoor
open Go.RowKit

theorem wbS_eq {d : Dk} {kq fr i n : Nat} {ws t : ByteArray} (hr : rdO d (kq : Int) = some ws) (hw : ws.size = 32) (hf : fr < 32) (hn : n = min (32 - fr) (t.size - i)) (hi : i < t.size) : wbS d kq fr (t.data.toList.drop i) = ws.extract 0 fr ++ t.extract i (i + n) ++ ws.extract (fr + n) ws.size := by
  have hsz : ∀ b : ByteArray, b.size = b.data.toList.length := fun b => by simp
  have hwl : ws.data.toList.length = 32 := by rw [← hsz]; exact hw
  have htl : t.data.toList.length = t.size := (hsz t).symm
  refine ba_ext ?_
  rw [ba_append_list, ba_append_list, extract_data, extract_data, extract_data]
  show splice (secL ((rdO d (kq : Int)).getD ⟨#[]⟩)) fr ((t.data.toList.drop i).take (32 - fr)) = _
  rw [hr, Option.getD_some, secL_eq hw]
  unfold splice
  have e1 : (t.data.toList.drop i).take (32 - fr) = (t.data.toList.drop i).take n := by
    rcases Nat.le_total (32 - fr) (t.size - i) with h | h
    · rw [show n = 32 - fr by omega]
    · rw [show n = t.size - i by omega, List.take_of_length_le (by rw [List.length_drop]; omega), List.take_of_length_le (by rw [List.length_drop]; omega)]
  have e2 : ((t.data.toList.drop i).take n).length = n := by rw [List.length_take, List.length_drop]; omega
  rw [e1, e2, List.drop_zero, Nat.sub_zero, Nat.add_sub_cancel_left, hw]
  rw [List.take_of_length_le (l := ws.data.toList.drop (fr + n)) (by rw [List.length_drop]; omega), List.append_assoc]

theorem wb_round {d : Dk} {se A i n kq fr : Nat} {ws t S : ByteArray} (hr : rdO d (kq : Int) = some ws) (hw : ws.size = 32) (hkq : se + (A + i) / 32 = kq) (hfr : (A + i) % 32 = fr) (hn : n = min (32 - fr) (t.size - i)) (hi : i < t.size) (hS : S = ws.extract 0 fr ++ t.extract i (i + n) ++ ws.extract (fr + n) ws.size) (h : wrOk d (kq : Int) S) :
    wbL d (se + (A + i) / 32) ((A + i) % 32) (t.data.toList.drop i) = wbL (wrD d (kq : Int) S) (se + (A + (i + n)) / 32) ((A + (i + n)) % 32) (t.data.toList.drop (i + n)) := by
  have hf : fr < 32 := by omega
  have hsz : t.data.toList.length = t.size := by simp
  have he := wbS_eq hr hw hf hn hi
  rw [← hS] at he
  have hne : t.data.toList.drop i ≠ [] := fun e => by have := congrArg List.length e; rw [List.length_drop] at this; simp at this; omega
  rw [hkq, hfr, wbL_go hne hf (by rw [he]; exact h), he]
  rcases Nat.le_total (32 - fr) (t.size - i) with h1 | h1
  · have hn' : n = 32 - fr := by omega
    rw [List.drop_drop, show (A + (i + n)) % 32 = 0 by omega, show se + (A + (i + n)) / 32 = kq + 1 by omega, hn']
  · have hn' : n = t.size - i := by omega
    rw [List.drop_drop, List.drop_eq_nil_of_le (by omega), List.drop_eq_nil_of_le (by omega), wbL_nil, wbL_nil]
theorem wb_refused {d : Dk} {se A i n kq fr : Nat} {ws t S : ByteArray} (hr : rdO d (kq : Int) = some ws) (hw : ws.size = 32) (hkq : se + (A + i) / 32 = kq) (hfr : (A + i) % 32 = fr) (hn : n = min (32 - fr) (t.size - i)) (hi : i < t.size) (hS : S = ws.extract 0 fr ++ t.extract i (i + n) ++ ws.extract (fr + n) ws.size) (h : ¬ wrOk d (kq : Int) S) :
    wbL d (se + (A + i) / 32) ((A + i) % 32) (t.data.toList.drop i) = none := by
  have hf : fr < 32 := by omega
  have he := wbS_eq hr hw hf hn hi
  rw [← hS] at he
  have hne : t.data.toList.drop i ≠ [] := fun e => by have := congrArg List.length e; rw [List.length_drop] at this; simp at this; omega
  rw [hkq, hfr]
  exact wbL_stop hne (by rw [he]; exact h)
theorem wb_beyond {d : Dk} {se A i : Nat} {t : ByteArray} (hi : i < t.size) (h : ¬ se + (A + i) / 32 < d.sec.length) : wbL d (se + (A + i) / 32) ((A + i) % 32) (t.data.toList.drop i) = none := by
  have hne : t.data.toList.drop i ≠ [] := fun e => by have := congrArg List.length e; rw [List.length_drop] at this; simp at this; omega
  exact wbL_stop hne fun hk => h (by have := hk.2.1.2; omega)

end Go.Proofs.YtgcnebepklelpaaGreatDoor
