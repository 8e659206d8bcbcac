/- Texts of our own, joined. -/
import Derived.Test.YtieenkloiicnkaaGreatDoorJe
import Derived.Deep.RegionLaw
import Derived.Test.YtieenkloiicnkaaGreatDoorJd
/- Disks: what the program's WriteSector hands back. -/
namespace Go.Proofs.YtieenkloiicnkaaGreatDoor
open Go.RowKit

theorem wrOk_iff (d : Dk) (a : Int) (t : ByteArray) : (⟨d.sec, d.cache ++ [⟨a, t⟩]⟩ : Dk).ok ↔ wrOk d a t := by
  constructor
  · rintro ⟨h1, h2, h3, h4, h5⟩
    have hl : (d.cache ++ [(⟨a, t⟩ : Wr)]).length = d.cache.length + 1 := by simp
    simp only [hl] at h3
    obtain ⟨x1, x2, x3⟩ := h5 ⟨a, t⟩ (by simp)
    exact ⟨⟨h1, h2, by omega, h4, fun x hx => h5 x (by simp [hx])⟩, ⟨x1, x2⟩, x3, by omega⟩
  · rintro ⟨⟨h1, h2, _, h4, h5⟩, ⟨x1, x2⟩, x3, h3⟩
    refine ⟨h1, h2, ?_, h4, fun x hx => ?_⟩
    · show (d.cache ++ [(⟨a, t⟩ : Wr)]).length ≤ 60
      simp; omega
    · rcases List.mem_append.1 hx with h | h
      · exact h5 x h
      · simp at h; subst h; exact ⟨x1, x2, x3⟩

theorem wrD_small {d : Dk} {a : Int} {t : ByteArray} (h : d.small) (hc : d.count ≤ 4000000) : (wrD d a t).small ∧ (wrD d a t).count ≤ 4000010 := by
  unfold wrD
  split
  · unfold Dk.count at hc
    refine ⟨⟨h.1, ?_⟩, ?_⟩
    · show (d.cache ++ [(⟨a, t⟩ : Wr)]).length ≤ _
      simp; omega
    · show d.sec.length + 2 * (d.cache ++ [(⟨a, t⟩ : Wr)]).length ≤ _
      simp; omega
  · exact ⟨h, by omega⟩

set_option maxRecDepth 100000 in
set_option maxHeartbeats 4000000 in
theorem implWriteSector_any (d : Dk) (v : Value) (a : Int) (t : ByteArray) (B T : Nat) (w : World) (h : DOwn B T w v d) (hs : d.small) (ht : ∀ s ∈ d.sec, s.size ≤ 1099511627776) (hu : ∀ x ∈ d.cache, x.text.size ≤ 1099511627776) (htz : t.size ≤ 1099511627776) (hs' : d.cache.length < 1073741824) :
    Calls Tryz.prog 129 #[v, .int .i64 a, .string t] w fun e w' => DiskR (wrD d a t) (decide (wrOk d a t)) w e w' := by
  obtain ⟨aa, ab, ca, cb, rfl⟩ := h.form
  obtain ⟨hx0, hx1, b0, hsz⟩ := two_boxes w #[.slice aa d.sec.length ca, .slice ab d.cache.length cb] #[.slice none 0 0, .slice none 0 0] 33 33
  have h' := h.later b0
  go_enter Tryz.func129, Tryz.ntmps129
  go_wp2_with fail
  generalize ((w.alloc (.cells #[.slice aa d.sec.length ca, .slice ab d.cache.length cb] 33)).alloc (.cells #[.slice none 0 0, .slice none 0 0] 33)) = W at hx0 hx1 b0 hsz h' ⊢
  refine (copyDisk_any d _ B T _ h' hs ht hu).mono ?_
  rintro e w2 ⟨v2, rfl, o2, k2⟩
  obtain ⟨a1, a2, q1, q2, rfl⟩ := o2.form
  have k3 : Below w2.heap.size w2 (w2.alloc (.cells #[.slice a1 d.sec.length q1, .slice a2 d.cache.length q2] 33)) := belAlloc _ _
  have y3 := Box.new w2 #[.slice a1 d.sec.length q1, .slice a2 d.cache.length q2] 33
  have s3 : (w2.alloc (.cells #[.slice a1 d.sec.length q1, .slice a2 d.cache.length q2] 33)).heap.size = w2.heap.size + 1 := by simp
  have j3 := k2.trans (k3.mono k2.size)
  have o3 := o2.later k3
  have h3 := h'.later j3
  have X0 := Lib.hid (hx0.later j3)
  have X1 := Lib.hid (hx1.later j3)
  have s2 := k2.size
  go_upto_region 2 with fail
  generalize w2.alloc (.cells #[.slice a1 d.sec.length q1, .slice a2 d.cache.length q2] 33) = w3 at k3 y3 s3 j3 o3 h3 X0 X1 ⊢
  obtain ⟨va, vb, hv, l1, l2, hap⟩ := o3
  simp only [Value.agg.injEq, Array.mk.injEq, List.cons.injEq, and_true] at hv
  obtain ⟨rfl, rfl⟩ := hv
  have hD1 := hs.1
  have hD2 := hs.2
  have L1 := Lib.hid l1
  have L2 := Lib.hid l2
  have Y3 := Lib.hid y3
  have hin1 : ∀ k, (Value.slice a1 d.sec.length q1).ownBlock = some k → W.heap.size ≤ k ∧ k < w2.heap.size := fun k hk => ⟨(l1.1.own.lt k hk).1, l1.2.2 k hk⟩
  have hin2 : ∀ k, (Value.slice a2 d.cache.length q2).ownBlock = some k → W.heap.size ≤ k ∧ k < w2.heap.size := fun k hk => ⟨(l2.1.own.lt k hk).1, l2.2.2 k hk⟩
  have HIN := Lib.hid (And.intro hin1 hin2)
  have HAP := Lib.hid hap
  have S3 := Lib.hid s3
  go_cut [] (fun wx => ∃ (a6 : Option Addr) (q6 : Nat), Box wx w2.heap.size #[.slice a1 d.sec.length q1, .slice a6 (d.cache.length + 1) q6] 33 ∧ DOwn W.heap.size wx.heap.size wx (.agg #[.slice a1 d.sec.length q1, .slice a6 (d.cache.length + 1) q6]) ⟨d.sec, d.cache ++ [⟨a, t⟩]⟩ ∧ Below W.heap.size W wx)
  case first =>
    have HC : Hid (∀ (x : World) (o : Obj), Below w3.drew.heap.size w3.drew x → RBuf wrE W.heap.size (x.alloc o) (x.alloc o) (.slice a2 d.cache.length q2) d.cache ∧ x.cell? ⟨w2.heap.size, 1, none⟩ = some (.slice a2 d.cache.length q2) ∧ (x.alloc o).cell? ⟨w2.heap.size, 1, none⟩ = some (.slice a2 d.cache.length q2)) := by
      intro x o hx
      have hx2 : Below w3.heap.size w3 x := ((Below.refl _ _).drew).trans hx
      exact ⟨((L2.out.later hx2).1.alloc o).here, (Y3.out.later hx2).cell 1 _ rfl, ((Y3.out.later hx2).later (belAlloc _ _)).cell 1 _ rfl⟩
    have HC6 : Hid (∀ (x y : World) (o : Obj), Below w3.drew.heap.size w3.drew x → (x.alloc o).grownBy y (Value.slice a2 d.cache.length q2).ownBlock → Box y w2.heap.size #[.slice a1 d.sec.length q1, .slice a2 d.cache.length q2] 33 ∧ Below W.heap.size W y ∧ LOwn strE W.heap.size w2.heap.size y (.slice a1 d.sec.length q1) d.sec ∧ w2.heap.size < x.heap.size) := by
      intro x y o hx hg
      have hx2 : Below w3.heap.size w3 x := ((Below.refl _ _).drew).trans hx
      have hxo : Below w3.heap.size w3 (x.alloc o) := hx2.trans ((belAlloc x o).mono hx2.size)
      have bo := Y3.out.later hxo
      have jx := j3.trans (hxo.mono j3.size)
      refine ⟨(hg.block _ bo.lt (fun e => by have := HIN.out.2 _ e.symm; omega)).trans bo, jx.grown hg jx.size (fun k hk => by have := HIN.out.2 k hk; omega), (L1.out.later hxo).grown hg HAP.out, ?_⟩
      have := hx2.size
      have := S3.out
      omega
    have c1 := y3.cell 1 (.slice a2 d.cache.length q2) rfl
    clear hx0 hx1 h h' h3 y3 l1 l2 hap hin1 hin2 o2 k2 k3 j3 s3 ht hu hsz
    go_region_law (first
      | (go_simp; go_at_call 95; refine (clone_any _ _ (by omega)).mono ?_; rintro e w5 ⟨rfl, k5⟩; have c5 := (HC.out _ (.cells #[] 0) k5).2.1; have d5 := (HC.out _ (.cells #[.int .i64 a, .string t] 111) k5).2.2; dsimp only)
      | (refine step_append_rows (by rfl) _ _ wrE (by rfl) W.heap.size _ d.cache (by rfl) (HC.out _ _ k5).1 w5.heap.size _ [⟨a, t⟩] (by rfl) (RBuf.lit1 wrE w5 ⟨a, t⟩) (by simp [wrE]; omega) ?_; intro v6 w6 hr6 hg6 at6 lt6; obtain ⟨a6, q6, rfl⟩ := hr6.form; obtain ⟨bx6, bel6, ls6, sz6⟩ := HC6.out _ _ _ k5 hg6; have z1 := bx6.cell 1 (.slice a2 d.cache.length q2) rfl; have f1 := bx6.loose 1))
    all_goals
      go_wp2_with fail
      go_meet
      have e6 : (d.cache ++ [(⟨a, t⟩ : Wr)]).length = d.cache.length + 1 := by simp
      rw [e6] at hr6 at6
      have at7 : (Value.slice a6 (d.cache.length + 1) q6).ownBlock = (Value.slice a2 d.cache.length q2).ownBlock ∨ (Value.slice a6 (d.cache.length + 1) q6).ownBlock = some (w5.heap.size + 1) := by
        have sx : (w5.alloc (.cells #[.int .i64 a, .string t] 111)).heap.size = w5.heap.size + 1 := by simp
        rw [← sx]; exact at6
      have nO : (Value.slice a6 (d.cache.length + 1) q6).ownBlock ≠ some w2.heap.size := by
        rcases at7 with e | e
        · rw [e]; intro h; have := HIN.out.2 _ h; omega
        · rw [e]; intro h; have := Option.some.inj h; omega
      have f1' := ls6.storeHi w2.heap.size 1 (.slice a6 (d.cache.length + 1) q6) (Nat.le_refl _)
      have f2' := hr6.lown.grown (stored_grown w6 w2.heap.size 1 (.slice a6 (d.cache.length + 1) q6)) (.inr nO)
      have ss : (w6.setCell ⟨w2.heap.size, 1, none⟩ (.slice a6 (d.cache.length + 1) q6)).heap.size = w6.heap.size := by simp
      refine ⟨a6, q6, ?_, ⟨_, _, rfl, f1'.wider (Nat.le_trans ls6.2.1 (Nat.le_of_eq ss.symm)) (Nat.le_refl _), by rw [ss]; exact f2', ?_⟩, bel6.setCell (p := ⟨w2.heap.size, 1, none⟩) (by simpa using s2) _⟩
      · have := bx6.set 1 (.slice a6 (d.cache.length + 1) q6)
        simpa using this
      · rcases at7 with e | e
        · rw [e]; exact HAP.out
        · rw [e]
          refine .inr fun h => ?_
          have := HIN.out.1 _ h
          omega
  case rest =>
    obtain ⟨a6, q6, bx, ow, bel⟩ := hcut
    have m0 := bx.cell 0 (.slice a1 d.sec.length q1) rfl
    have m1 := bx.cell 1 (.slice a6 (d.cache.length + 1) q6) rfl
    have hsm : (⟨d.sec, d.cache ++ [⟨a, t⟩]⟩ : Dk).small := ⟨hs.1, by show (d.cache ++ [(⟨a, t⟩ : Wr)]).length ≤ _; simp; omega⟩
    have HHX := Lib.hid (And.intro (hx0.later bel) (hx1.later bel))
    have HH := Lib.hid (h'.later bel)
    have OW := Lib.hid ow
    have BX := Lib.hid bx
    have HSZ := Lib.hid hsz
    clear hx0 hx1 h h' o2 k2 k3 y3 s3 j3 h3 l1 l2 hap hin1 hin2 hsz bx
    go_wp2_with fail
    clear m0 m1
    refine (implDiskOk_any ⟨d.sec, d.cache ++ [⟨a, t⟩]⟩ _ _ ow.rd hsm).mono ?_
    rintro e w7 ⟨rfl, k7⟩
    rw [decide_eq_decide.2 (wrOk_iff d a t)]
    have bel7 := bel.trans (k7.mono bel.size)
    have x1 := HHX.out.2.later k7
    have r0 := x1.cell 0 (.slice none 0 0) rfl
    have r1 := x1.cell 1 (.slice none 0 0) rfl
    have f0 := x1.loose 0
    have f1 := x1.loose 1
    have hWl : Hid (w.heap.size + 1 < W.heap.size) := show _ < _ by have := HSZ.out; omega
    have bF := Lib.hid (b0.trans (bel7.mono b0.size))
    by_cases hw : wrOk d a t
    · have E2 := Lib.hid (show wrD d a t = ⟨d.sec, d.cache ++ [⟨a, t⟩]⟩ from if_pos hw)
      rw [decide_eq_true hw]
      have y7 := BX.out.later k7
      have m0 := y7.cell 0 (.slice a1 d.sec.length q1) rfl
      have m1 := y7.cell 1 (.slice a6 (d.cache.length + 1) q6) rfl
      have O7 := Lib.hid ((OW.out.later k7).widen (Nat.le_refl _) k7.size (Nat.le_refl _))
      clear y7 x1 bel bel7
      go_wp2
      refine bodyPost_ret (v := .tuple #[.agg #[.slice a1 d.sec.length q1, .slice a6 (d.cache.length + 1) q6], .bool true]) (by simp [results, Tryz.results129, go_sem, r0, r1]) rfl ?_
      rw [E2.out, decide_eq_true hw]
      exact ⟨_, rfl, ((O7.out.store (w.heap.size + 1) 0 (.slice a1 d.sec.length q1) hWl.out).store (w.heap.size + 1) 1 (.slice a6 (d.cache.length + 1) q6) hWl.out).widen (by have := hWl.out; omega) (by simp) (Nat.le_refl _), (bF.out.setCell (p := ⟨w.heap.size + 1, 0, none⟩) (by simp) _).setCell (p := ⟨w.heap.size + 1, 1, none⟩) (by simp) _⟩
    · have E2 := Lib.hid (show wrD d a t = d from if_neg hw)
      rw [decide_eq_false hw]
      have x7 := HHX.out.1.later k7
      have m0 := x7.cell 0 (.slice aa d.sec.length ca) rfl
      have m1 := x7.cell 1 (.slice ab d.cache.length cb) rfl
      have H7 := HH.out.later k7
      clear x7 r0 r1 f0 f1
      go_wp2_with fail
      clear m0 m1
      refine (copyDisk_any d _ B T _ H7 hs ht hu).mono ?_
      rintro e w8 ⟨v8, rfl, o8, k8⟩
      obtain ⟨a8, a9, q8, q9, rfl⟩ := o8.form
      have x8 := x1.later k8
      have r0 := x8.cell 0 (.slice none 0 0) rfl
      have r1 := x8.cell 1 (.slice none 0 0) rfl
      have f0 := x8.loose 0
      have f1 := x8.loose 1
      have b8 := Lib.hid (bF.out.trans (k8.mono bF.out.size))
      have O8 := Lib.hid o8
      have s7 : Hid (W.heap.size ≤ w7.heap.size) := bel7.size
      clear x8 x1 o8 bel bel7 H7 k8
      go_wp2
      refine bodyPost_ret (v := .tuple #[.agg #[.slice a8 d.sec.length q8, .slice a9 d.cache.length q9], .bool false]) (by simp [results, Tryz.results129, go_sem, r0, r1]) rfl ?_
      rw [E2.out, decide_eq_false hw]
      have hl7 : w.heap.size + 1 < w7.heap.size := Nat.lt_of_lt_of_le hWl.out s7.out
      exact ⟨_, rfl, ((O8.out.store (w.heap.size + 1) 0 (.slice a8 d.sec.length q8) hl7).store (w.heap.size + 1) 1 (.slice a9 d.cache.length q9) hl7).widen (by omega) (by simp) (Nat.le_refl _), (b8.out.setCell (p := ⟨w.heap.size + 1, 0, none⟩) (by simp) _).setCell (p := ⟨w.heap.size + 1, 1, none⟩) (by simp) _⟩

end Go.Proofs.YtieenkloiicnkaaGreatDoor

/- Plain facts on bytes that are written over sectors: what WriteBytes makes of a disk, and what is read there. -/
namespace Go.Proofs.YtieenkloiicnkaaGreatDoor
open Go.RowKit

/-- A sector with bytes written in. -/
def wbS (d : Dk) (k fr : Nat) (t : List UInt8) : ByteArray := ⟨(splice (secL ((rdO d (k : Int)).getD ⟨#[]⟩)) fr (t.take (32 - fr))).toArray⟩

/-- Sector by sector the bytes are written, from the place fr of the sector k on; none where a write is refused. -/
def wbL (d : Dk) (k fr : Nat) (t : List UInt8) : Option Dk :=
  match t with
  | [] => some d
  | x :: l => if wrOk d (k : Int) (wbS d k fr (x :: l)) then wbL (wrD d (k : Int) (wbS d k fr (x :: l))) (k + 1) 0 (l.drop (31 - fr)) else none
termination_by t.length
decreasing_by simp; omega

theorem wbL_nil (d : Dk) (k fr : Nat) : wbL d k fr [] = some d := by rw [wbL]
theorem wbL_go {d : Dk} {k fr : Nat} {t : List UInt8} (ht : t ≠ []) (hf : fr < 32) (h : wrOk d (k : Int) (wbS d k fr t)) : wbL d k fr t = wbL (wrD d (k : Int) (wbS d k fr t)) (k + 1) 0 (t.drop (32 - fr)) := by
  cases t with
  | nil => exact absurd rfl ht
  | cons x l =>
    rw [wbL, if_pos h]
    have : 32 - fr = (31 - fr) + 1 := by omega
    rw [this, List.drop_succ_cons]
theorem wbL_stop {d : Dk} {k fr : Nat} {t : List UInt8} (ht : t ≠ []) (h : ¬ wrOk d (k : Int) (wbS d k fr t)) : wbL d k fr t = none := by
  cases t with
  | nil => exact absurd rfl ht
  | cons x l => rw [wbL, if_neg h]

theorem wbS_size (d : Dk) (k fr : Nat) (t : List UInt8) (hf : fr < 32) : (wbS d k fr t).size = 32 := by
  show (splice (secL ((rdO d (k : Int)).getD ⟨#[]⟩)) fr (t.take (32 - fr))).toArray.size = 32
  rw [List.size_toArray, length_splice]
  · exact secL_length _
  · rw [secL_length, List.length_take]; omega

theorem splice_get {α : Type} {l m : List α} {o : Nat} (h : o + m.length ≤ l.length) (r : Nat) : (splice l o m)[r]? = if o ≤ r ∧ r < o + m.length then m[r - o]? else l[r]? := by
  unfold splice
  have h1 : (l.take o).length = o := by rw [List.length_take]; omega
  by_cases hr : r < o
  · rw [if_neg (by omega), List.getElem?_append_left (by omega), List.getElem?_take, if_pos hr]
  · rw [List.getElem?_append_right (by omega), h1]
    by_cases hr2 : r < o + m.length
    · rw [if_pos (by omega), List.getElem?_append_left (by omega)]
    · rw [if_neg (by omega), List.getElem?_append_right (by omega), List.getElem?_drop]
      congr 1
      omega

/-- The byte at a place of a disk. -/
def bt (d : Dk) (P : Nat) : Option UInt8 := (rdO d ((P / 32 : Nat) : Int)).bind fun t => t.data.toList[P % 32]?

theorem rdO_ok {d : Dk} (h : d.ok) {k : Nat} (hk : k < d.sec.length) : ∃ t : ByteArray, rdO d (k : Int) = some t ∧ t.size = 32 := by
  unfold rdO
  rw [if_pos ⟨by omega, by omega⟩]
  refine ⟨_, rfl, ?_⟩
  cases hl : lastAt d.cache (k : Int) with
  | some u =>
    obtain ⟨x, hx, e⟩ := lastAt_mem hl
    rw [Option.getD_some, ← e]
    exact (h.2.2.2.2 x hx).2.2
  | none =>
    rw [Option.getD_none, Int.toNat_natCast, List.getD_eq_getElem?_getD, List.getElem?_eq_getElem hk]
    exact h.2.2.2.1 _ (List.getElem_mem hk)

theorem rdO_wr {d : Dk} {k : Nat} {s : ByteArray} (h : wrOk d (k : Int) s) (j : Nat) : rdO (wrD d (k : Int) s) (j : Int) = if j = k then some s else rdO d (j : Int) := by
  have hk : (k : Int) < d.sec.length := h.2.1.2
  have e : wrD d (k : Int) s = ⟨d.sec, d.cache ++ [⟨(k : Int), s⟩]⟩ := if_pos h
  rw [e]
  unfold rdO
  simp only [lastAt_append]
  by_cases hj : j = k
  · subst hj
    rw [if_pos rfl, if_pos ⟨by omega, hk⟩, if_pos rfl]; rfl
  · rw [if_neg hj]
    have hne : ¬ (k : Int) = (j : Int) := by omega
    simp only [hne, if_false]

theorem secL_eq {t : ByteArray} (h : t.size = 32) : secL t = t.data.toList := by
  have hl : t.data.toList.length = 32 := by rw [Array.length_toList]; exact h
  unfold secL splice
  rw [List.take_of_length_le (l := t.data.toList) (by omega), hl]
  simp

theorem wbL_tells (n : Nat) : ∀ (t : List UInt8), t.length ≤ n → ∀ (d : Dk) (k fr : Nat), d.ok → fr < 32 → 32 * k + fr + t.length ≤ 32 * d.sec.length → d.cache.length + (fr + t.length + 31) / 32 ≤ 60 →
    ∃ d', wbL d k fr t = some d' ∧ d'.ok ∧ d'.sec = d.sec ∧ d'.cache.length ≤ d.cache.length + (fr + t.length + 31) / 32 ∧ ∀ P, bt d' P = if 32 * k + fr ≤ P ∧ P < 32 * k + fr + t.length then t[P - (32 * k + fr)]? else bt d P := by
  induction n with
  | zero =>
    intro t ht d k fr hok hf hl hc
    obtain rfl : t = [] := List.length_eq_zero_iff.1 (by omega)
    exact ⟨d, wbL_nil _ _ _, hok, rfl, by omega, fun P => by rw [if_neg (by simp)]⟩
  | succ n ih =>
    intro t ht d k fr hok hf hl hc
    by_cases h0 : t = []
    · subst h0
      exact ⟨d, wbL_nil _ _ _, hok, rfl, by omega, fun P => by rw [if_neg (by simp)]⟩
    · have htl : 0 < t.length := List.length_pos_iff.2 h0
      have hk : k < d.sec.length := by omega
      obtain ⟨o, ho, hos⟩ := rdO_ok hok hk
      have hw : wrOk d (k : Int) (wbS d k fr t) := ⟨hok, ⟨by omega, by omega⟩, wbS_size d k fr t hf, by omega⟩
      have e1 := wbL_go h0 hf hw
      have hd1 : (wrD d (k : Int) (wbS d k fr t)) = ⟨d.sec, d.cache ++ [⟨(k : Int), wbS d k fr t⟩]⟩ := if_pos hw
      have hok1 : (wrD d (k : Int) (wbS d k fr t)).ok := by rw [hd1]; exact (wrOk_iff d _ _).2 hw
      have hs1 : (wrD d (k : Int) (wbS d k fr t)).sec = d.sec := by rw [hd1]
      have hc1 : (wrD d (k : Int) (wbS d k fr t)).cache.length = d.cache.length + 1 := by rw [hd1]; simp
      have hdl : (t.drop (32 - fr)).length = t.length - (32 - fr) := List.length_drop
      obtain ⟨d', h1, h2, h3, h4, h5⟩ := ih (t.drop (32 - fr)) (by omega) (wrD d (k : Int) (wbS d k fr t)) (k + 1) 0 hok1 (by omega) (by rw [hs1, hdl]; omega) (by rw [hc1, hdl]; omega)
      refine ⟨d', e1.trans h1, h2, h3.trans hs1, by rw [hc1, hdl] at h4; omega, fun P => ?_⟩
      rw [h5 P, hdl]
      have hb1 : bt (wrD d (k : Int) (wbS d k fr t)) P = if P / 32 = k then (wbS d k fr t).data.toList[P % 32]? else bt d P := by
        unfold bt
        rw [rdO_wr hw (P / 32)]
        by_cases hp : P / 32 = k
        · rw [if_pos hp, if_pos hp]; rfl
        · rw [if_neg hp, if_neg hp]
      have hs : (wbS d k fr t).data.toList = splice o.data.toList fr (t.take (32 - fr)) := by
        unfold wbS
        rw [ho]
        show splice (secL o) fr (t.take (32 - fr)) = _
        rw [secL_eq hos]
      have hol : o.data.toList.length = 32 := by rw [Array.length_toList]; exact hos
      have htk : (t.take (32 - fr)).length = min (32 - fr) t.length := List.length_take
      have hbk : P / 32 = k → bt d P = o.data.toList[P % 32]? := by
        intro hp
        unfold bt
        rw [hp, ho]; rfl
      rw [hb1]
      by_cases c1 : 32 * (k + 1) + 0 ≤ P ∧ P < 32 * (k + 1) + 0 + (t.length - (32 - fr))
      · rw [if_pos c1, if_pos (by omega), List.getElem?_drop]
        congr 1
        omega
      · rw [if_neg c1]
        by_cases hp : P / 32 = k
        · rw [if_pos hp, hs, splice_get (by rw [htk, hol]; omega), htk]
          by_cases c2 : fr ≤ P % 32 ∧ P % 32 < fr + min (32 - fr) t.length
          · rw [if_pos c2, if_pos (by omega), List.getElem?_take, if_pos (by omega)]
            congr 1
            omega
          · rw [if_neg c2, if_neg (by omega), hbk hp]
        · rw [if_neg hp, if_neg (by omega)]

/-- The texts of sectors, byte by byte. -/
theorem stL_ok {d : Dk} (h : d.ok) (a : Nat) : ∀ n : Nat, a + n ≤ d.sec.length → ∃ l, stL d (a : Int) n = some l ∧ l.length = 32 * n ∧ ∀ P, P < 32 * n → l[P]? = bt d (32 * a + P) := by
  intro n
  induction n with
  | zero => intro _; exact ⟨[], rfl, rfl, fun P hP => by omega⟩
  | succ n ih =>
    intro hn
    obtain ⟨l, h1, h2, h3⟩ := ih (by omega)
    obtain ⟨o, ho, hos⟩ := rdO_ok h (k := a + n) (by omega)
    have hol : o.data.toList.length = 32 := by rw [Array.length_toList]; exact hos
    refine ⟨l ++ o.data.toList, stL_go h1 (by rw [← ho]; congr 1), by rw [List.length_append, h2, hol]; omega, fun P hP => ?_⟩
    by_cases hp : P < 32 * n
    · rw [List.getElem?_append_left (by omega), h3 P hp]
    · rw [List.getElem?_append_right (by omega), h2]
      unfold bt
      rw [show (32 * a + P) / 32 = a + n by omega, ho]
      show _ = o.data.toList[(32 * a + P) % 32]?
      congr 1
      omega

end Go.Proofs.YtieenkloiicnkaaGreatDoor

/- Disks: what the model's FlushDisk hands back. -/
namespace Go.Proofs.YtieenkloiicnkaaGreatDoor
open Go.RowKit

/-- The sectors with these writes in them, in order. -/
def flush (sec : List ByteArray) (c : List Wr) : List ByteArray := c.foldl (fun s x => s.set x.at_.toNat x.text) sec
theorem flush_length (sec : List ByteArray) (c : List Wr) : (flush sec c).length = sec.length := by
  induction c generalizing sec with
  | nil => rfl
  | cons x c ih =>
    have : flush sec (x :: c) = flush (sec.set x.at_.toNat x.text) c := rfl
    rw [this, ih]; simp
theorem flush_take {sec : List ByteArray} {c : List Wr} {i : Nat} (h : i < c.length) : flush sec (c.take (i + 1)) = (flush sec (c.take i)).set c[i].at_.toNat c[i].text := by
  rw [List.take_succ_eq_append_getElem h, flush, flush, List.foldl_append]; rfl
theorem flush_all {sec : List ByteArray} {c : List Wr} {i : Nat} (h : c.length ≤ i) : flush sec (c.take i) = flush sec c := by rw [List.take_of_length_le h]
def flD (d : Dk) : Dk := if d.ok then ⟨flush d.sec d.cache, []⟩ else d

/-- What a function hands back that makes a disk. -/
def DiskR1 (d : Dk) (w : World) (e : Ending) (w' : World) : Prop := ∃ v', e = .returned v' ∧ DOwn w.heap.size w'.heap.size w' v' d ∧ Below w.heap.size w w'

theorem RBuf.drew' {α : Type} {E : Enc α} {B : Nat} {w : World} {v : Value} {l : List α} (h : RBuf E B w w v l) : RBuf E B w.drew w.drew v l := ⟨h.own.drew, Below.refl _ _, h.le⟩

theorem Box.kept {b B T : Nat} {w w' : World} {cs : Array Value} {t : TypeId} (h : Box w b cs t) (hk : Kept B T w w') (hb : b < B ∨ T ≤ b) : Box w' b cs t := (hk.block b h.lt hb).trans h

set_option maxRecDepth 100000 in
set_option maxHeartbeats 4000000 in
theorem specFlushDisk_any (d : Dk) (v : Value) (B T : Nat) (w : World) (h : DOwn B T w v d) (hs : d.small) (ht : ∀ s ∈ d.sec, s.size ≤ 1099511627776) (hu : ∀ x ∈ d.cache, x.text.size ≤ 1099511627776) :
    Calls Tryz.prog 47 #[v] w fun e w' => DiskR1 (flD d) w e w' := by
  obtain ⟨aa, ab, ca, cb, rfl⟩ := h.form
  obtain ⟨hx0, hx1, b0, hsz⟩ : Box ((w.alloc (.cells #[.slice aa d.sec.length ca, .slice ab d.cache.length cb] 33)).alloc (.cells #[.slice none 0 0, .slice none 0 0] 33)) w.heap.size #[.slice aa d.sec.length ca, .slice ab d.cache.length cb] 33 ∧
      Box ((w.alloc (.cells #[.slice aa d.sec.length ca, .slice ab d.cache.length cb] 33)).alloc (.cells #[.slice none 0 0, .slice none 0 0] 33)) (w.heap.size + 1) #[.slice none 0 0, .slice none 0 0] 33 ∧
      Below w.heap.size w ((w.alloc (.cells #[.slice aa d.sec.length ca, .slice ab d.cache.length cb] 33)).alloc (.cells #[.slice none 0 0, .slice none 0 0] 33)) ∧
      ((w.alloc (.cells #[.slice aa d.sec.length ca, .slice ab d.cache.length cb] 33)).alloc (.cells #[.slice none 0 0, .slice none 0 0] 33)).heap.size = w.heap.size + 2 := by
    have e1 : (w.alloc (.cells #[.slice aa d.sec.length ca, .slice ab d.cache.length cb] 33)).heap.size = w.heap.size + 1 := by simp
    have q0 := Box.new w #[.slice aa d.sec.length ca, .slice ab d.cache.length cb] 33
    have q1 := Box.new (w.alloc (.cells #[.slice aa d.sec.length ca, .slice ab d.cache.length cb] 33)) #[.slice none 0 0, .slice none 0 0] 33
    rw [e1] at q1
    exact ⟨q0.later ((Below.refl _ _).alloc (Nat.le_refl _) _), q1, ((Below.refl _ _).alloc (Nat.le_refl _) _).alloc (by simp) _, by simp⟩
  have h' := h.later b0
  have hTw : T ≤ w.heap.size := by obtain ⟨_, _, _, l1, _⟩ := h; exact l1.2.1
  go_enter Tryz.func47, Tryz.ntmps47
  go_wp2_with fail
  generalize ((w.alloc (.cells #[.slice aa d.sec.length ca, .slice ab d.cache.length cb] 33)).alloc (.cells #[.slice none 0 0, .slice none 0 0] 33)) = W at hx0 hx1 b0 hsz h' ⊢
  refine (specCopy_any d _ B T _ h' hs).mono ?_
  rintro e w2 ⟨v2, rfl, o2, k2⟩
  obtain ⟨a1, a2, q1, q2, rfl⟩ := o2.form
  have k3 : Below w2.heap.size w2 (w2.alloc (.cells #[.slice a1 d.sec.length q1, .slice a2 d.cache.length q2] 33)) := (Below.refl _ _).alloc (Nat.le_refl _) _
  have y3 := Box.new w2 #[.slice a1 d.sec.length q1, .slice a2 d.cache.length q2] 33
  have j3 := k2.trans (k3.mono k2.size)
  have o3 := o2.later k3
  have c0 := (hx0.later j3).cell 0 (.slice aa d.sec.length ca) rfl
  have c1 := (hx0.later j3).cell 1 (.slice ab d.cache.length cb) rfl
  have h3 := h'.later j3
  have s2 := k2.size
  clear h h' o2
  go_wp2_with fail
  clear c0 c1
  generalize hw3 : w2.alloc (.cells #[.slice a1 d.sec.length q1, .slice a2 d.cache.length q2] 33) = w3 at *
  have s3 : w3.heap.size = w2.heap.size + 1 := by rw [← hw3]; simp
  refine (specDiskOk_any d _ _ h3.rd hs ht hu).mono ?_
  rintro e w4 ⟨rfl, k4⟩
  have j4 := j3.trans (k4.mono j3.size)
  have x4 := hx0.later j4
  have r4 := hx1.later j4
  have y4 := y3.later k4
  have o4 := o3.later k4
  have h4 := h3.later k4
  have bF : Below w.heap.size w w4 := b0.trans (j4.mono b0.size)
  have s4 := k4.size
  have hD1 := hs.1
  have hD2 := hs.2
  clear hx0 hx1 y3 h3 o3 ht hu hs
  by_cases hok : d.ok
  · rw [decide_eq_true hok]
    have HYES := Lib.hid (show flD d = ⟨flush d.sec d.cache, []⟩ from if_pos hok)
    obtain ⟨va, vb, hv, l1, l2, hap⟩ := o4
    simp only [Value.agg.injEq, Array.mk.injEq, List.cons.injEq, and_true] at hv
    obtain ⟨rfl, rfl⟩ := hv
    obtain ⟨g1, rfl⟩ : ∃ g1 : Nat, a1 = some ⟨g1, 0, none⟩ := by
      rcases l1.1.own.2 with ⟨_, e⟩ | ⟨g, cap, cur, e, _⟩
      · have := hok.1; omega
      · simp only [Value.slice.injEq] at e; exact ⟨g, e.1⟩
    have hg1 : W.heap.size ≤ g1 ∧ g1 < w2.heap.size := ⟨(l1.1.own.lt g1 rfl).1, l1.2.2 g1 rfl⟩
    have hcells : ∀ x ∈ d.cache, 0 ≤ x.at_ ∧ x.at_ < d.sec.length := fun x hx => ⟨(hok.2.2.2.2 x hx).1, (hok.2.2.2.2 x hx).2.1⟩
    have H4 := Lib.hid h4
    have X4 := Lib.hid x4
    have R4 := Lib.hid r4
    have Y4 := Lib.hid y4
    have HC := Lib.hid hcells
    clear h4 x4 r4 y4 hcells l2 hap
    go_wp2
    go_loopw [4] (fun iv wr => ∃ i : Nat, i ≤ d.cache.length ∧ iv = .int .i64 (i : Int) ∧ RBuf strE W.heap.size wr wr (.slice (some ⟨g1, 0, none⟩) d.sec.length q1) (flush d.sec (d.cache.take i)) ∧ Kept W.heap.size w2.heap.size w4 wr) (fun iv _ => d.cache.length - (intOf iv).toNat)
    case atStart => exact ⟨0, by omega, rfl, l1.1, Kept.of_below (Below.refl _ _) _ _⟩
    case round =>
      obtain ⟨i, hi, rfl, hbr, hkp⟩ := hrel
      have x5 := X4.out.kept hkp (.inl (by omega))
      have r5 := R4.out.kept hkp (.inl (by omega))
      have y5 := Y4.out.kept hkp (.inr (Nat.le_refl _))
      by_cases hlt : i < d.cache.length
      · have h5 := H4.out.kept hkp (.inl (by omega))
        obtain ⟨_, _, hv5, _, l5, _⟩ := h5
        simp only [Value.agg.injEq, Array.mk.injEq, List.cons.injEq, and_true] at hv5
        obtain ⟨rfl, rfl⟩ := hv5
        obtain ⟨g, off, rfl, hcl⟩ := l5.rows.at i hlt
        have d0 : wr.cell? ⟨g, off + i * 2, none⟩ = some (.int .i64 d.cache[i].at_) := hcl wr (Below.refl _ _) 0 _ rfl
        have d1 : wr.cell? ⟨g, off + i * 2 + 1, none⟩ = some (.string d.cache[i].text) := hcl wr (Below.refl _ _) 1 _ rfl
        obtain ⟨hx1, hx2⟩ := HC.out _ (List.getElem_mem hlt)
        have hft := Lib.hid (flush_take (sec := d.sec) hlt)
        have hfl := flush_length d.sec (d.cache.take i)
        clear hcl l5
        generalize d.cache[i] = x at *
        obtain ⟨n, t⟩ := x
        simp only at d0 d1 hx1 hx2 hft
        obtain ⟨k, rfl⟩ := Int.eq_ofNat_of_zero_le hx1
        rw [Int.toNat_natCast] at hft
        have hk : k < (flush d.sec (d.cache.take i)).length := by omega
        have hat := List.getElem?_eq_getElem hk
        rw [← hfl] at hbr
        have cs : wr.cell? ⟨g1, k, none⟩ = some (.string (flush d.sec (d.cache.take i))[k]) := by
          have := hbr.cell rfl k _ hat 0 _ rfl
          rw [show strE.sz = 1 from rfl, Nat.mul_one, Nat.add_zero] at this
          exact this
        have fs := hbr.loose k
        have hst := hbr.stored k _ t hat 0 (by decide) (.string t) rfl
        rw [show strE.sz = 1 from rfl, Nat.mul_one, Nat.add_zero, ← hft.out, hfl] at hst
        have hk2 : Kept W.heap.size w2.heap.size w4 (wr.setCell ⟨g1, k, none⟩ (.string t)) := hkp.trans (Kept.of_grown (stored_grown wr g1 k (.string t)) (fun j hj => by have := Option.some.inj hj; omega))
        have m1 := x5.cell 1 (.slice (some ⟨g, off, none⟩) d.cache.length cb) rfl
        have n0 := y5.cell 0 (.slice (some ⟨g1, 0, none⟩) d.sec.length q1) rfl
        have hi0 : (0 : Int) ≤ (i : Int) := by omega
        have hi1 : (i : Int) < (d.cache.length : Int) := by omega
        have hk0 : (0 : Int) ≤ (k : Int) := by omega
        generalize (flush d.sec (d.cache.take i))[k] = old at cs
        have HST := Lib.hid hst
        have HK2 := Lib.hid hk2
        clear hbr hkp hat x5 r5 y5 hst hk2 hk hfl
        go_wp2
        go_region
        all_goals
          go_wp2
          go_roundw
          case rel => exact ⟨i + 1, by omega, by go_num, HST.out.here.drew', HK2.out.trans (Kept.of_below ((Below.refl _ _).drew) _ _)⟩
          case measure => simp [intOf]; omega
      · rw [flush_all (by omega)] at hbr
        have x1 := x5.cell 1 (.slice ab d.cache.length cb) rfl
        have kA : Below wr.heap.size wr (wr.alloc (.cells #[] 111)) := (Below.refl _ _).alloc (Nat.le_refl _) _
        have y6 := y5.later kA
        have r6 := r5.later kA
        have m0 := y6.cell 0 (.slice (some ⟨g1, 0, none⟩) d.sec.length q1) rfl
        have m1 := y6.cell 1 (.slice a2 d.cache.length q2) rfl
        have n1 := y6.loose 1
        have r0 := r6.cell 0 (.slice none 0 0) rfl
        have r1 := r6.cell 1 (.slice none 0 0) rfl
        have f0 := r6.loose 0
        have f1 := r6.loose 1
        have sA : (wr.alloc (.cells #[] 111)).heap.size = wr.heap.size + 1 := by simp
        have hfl := flush_length d.sec d.cache
        have hwr : w4.heap.size ≤ wr.heap.size := hkp.size
        have LS := Lib.hid (show LOwn strE W.heap.size w2.heap.size (wr.alloc (.cells #[] 111)) (.slice (some ⟨g1, 0, none⟩) d.sec.length q1) (flush d.sec d.cache) from LOwn.later ⟨hbr, by omega, fun j hj => by have : g1 = j := Option.some.inj hj; omega⟩ kA)
        have LC := Lib.hid (show LOwn wrE wr.heap.size (wr.alloc (.cells #[] 111)).heap.size (wr.alloc (.cells #[] 111)) (.slice (some ⟨wr.heap.size, 0, none⟩) 0 0) [] from (RBuf.fresh wrE wr).lown)
        have BA := Lib.hid ((hkp.below bF (by omega) bF.size).alloc (Nat.le_trans bF.size hkp.size) (.cells #[] 111))
        clear x5 r5 y5 y6 r6 hbr hkp kA
        go_wp2
        have q1' := ((LS.out.storeHi w2.heap.size 1 (.slice (some ⟨wr.heap.size, 0, none⟩) 0 0) (Nat.le_refl _)).store (w.heap.size + 1) 0 (.slice (some ⟨g1, 0, none⟩) d.sec.length q1) (by omega)).store (w.heap.size + 1) 1 (.slice (some ⟨wr.heap.size, 0, none⟩) 0 0) (by omega)
        have q2' := ((LC.out.store w2.heap.size 1 (.slice (some ⟨wr.heap.size, 0, none⟩) 0 0) (by omega)).store (w.heap.size + 1) 0 (.slice (some ⟨g1, 0, none⟩) d.sec.length q1) (by omega)).store (w.heap.size + 1) 1 (.slice (some ⟨wr.heap.size, 0, none⟩) 0 0) (by omega)
        have bE := ((BA.out.setCell (p := ⟨w2.heap.size, 1, none⟩) (by simp; omega) (.slice (some ⟨wr.heap.size, 0, none⟩) 0 0)).setCell (p := ⟨w.heap.size + 1, 0, none⟩) (by simp) (.slice (some ⟨g1, 0, none⟩) d.sec.length q1)).setCell (p := ⟨w.heap.size + 1, 1, none⟩) (by simp) (.slice (some ⟨wr.heap.size, 0, none⟩) 0 0)
        refine bodyPost_ret (v := .agg #[.slice (some ⟨g1, 0, none⟩) d.sec.length q1, .slice (some ⟨wr.heap.size, 0, none⟩) 0 0]) (by simp [results, Tryz.results47, go_sem, r0, r1]) rfl ?_
        rw [HYES.out]
        refine ⟨_, rfl, ⟨_, _, rfl, (q1'.deeper (by omega)).wider (by simp; omega) (Nat.le_refl _), (q2'.deeper (by omega)).wider (by simp) (Nat.le_refl _), .inr fun e => ?_⟩, bE⟩
        have : g1 = wr.heap.size := Option.some.inj e
        omega
  · rw [decide_eq_false hok]
    have HNO := Lib.hid (show flD d = d from if_neg hok)
    have r0 := r4.cell 0 (.slice none 0 0) rfl
    have r1 := r4.cell 1 (.slice none 0 0) rfl
    have f0 := r4.loose 0
    have f1 := r4.loose 1
    have m0 := y4.cell 0 (.slice a1 d.sec.length q1) rfl
    have m1 := y4.cell 1 (.slice a2 d.cache.length q2) rfl
    clear x4 r4 y4 h4
    go_wp2
    refine bodyPost_ret (v := .agg #[.slice a1 d.sec.length q1, .slice a2 d.cache.length q2]) (by simp [results, Tryz.results47, go_sem, r0, r1]) rfl ?_
    rw [HNO.out]
    exact ⟨_, rfl, ((o4.store (w.heap.size + 1) 0 (.slice a1 d.sec.length q1) (by omega)).store (w.heap.size + 1) 1 (.slice a2 d.cache.length q2) (by omega)).widen (by omega) (by simp; omega) (Nat.le_refl _), (bF.setCell (p := ⟨w.heap.size + 1, 0, none⟩) (by simp) _).setCell (p := ⟨w.heap.size + 1, 1, none⟩) (by simp) _⟩

end Go.Proofs.YtieenkloiicnkaaGreatDoor
