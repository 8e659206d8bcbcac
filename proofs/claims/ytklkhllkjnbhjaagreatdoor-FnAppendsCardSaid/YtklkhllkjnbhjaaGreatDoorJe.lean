/- Texts of our own, joined. -/
import Derived.Test.YtklkhllkjnbhjaaGreatDoorJd
import Derived.Deep.RegionLaw
import Derived.Test.YtklkhllkjnbhjaaGreatDoorJc
import Derived.Deep.Cut
import Derived.Great.BuildSlice
/- Disks: what the program's WriteSector hands back. -/
namespace Go.Proofs.YtklkhllkjnbhjaaGreatDoor
open Go.RowKit
set_option maxRecDepth 100000
set_option maxHeartbeats 8000000
theorem wrOk_iff (d : Dk) (a : Int) (t : ByteArray) : (⟨d.sec, d.cache ++ [⟨a, t⟩]⟩ : Dk).ok ↔ wrOk d a t := by
  constructor
  · rintro ⟨h1, h2, h3, h4, h5⟩
    have hl : (d.cache ++ [(⟨a, t⟩ : Wr)]).length = d.cache.length + 1 := by simp
    simp only [hl] at h3; obtain ⟨x1, x2, x3⟩ := h5 ⟨a, t⟩ (by simp); exact ⟨⟨h1, h2, by omega, h4, fun x hx => h5 x (by simp [hx])⟩, ⟨x1, x2⟩, x3, by omega⟩
  · rintro ⟨⟨h1, h2, _, h4, h5⟩, ⟨x1, x2⟩, x3, h3⟩
    refine ⟨h1, h2, ?_, h4, fun x hx => ?_⟩
    · show (d.cache ++ [(⟨a, t⟩ : Wr)]).length ≤ 60
      simp; omega
    · rcases List.mem_append.1 hx with h | h
      · exact h5 x h
      · simp at h; subst h; exact ⟨x1, x2, x3⟩
theorem implWriteSector_any (d : Dk) (v : Value) (a : Int) (t : ByteArray) (B T : Nat) (w : World) (h : DOwn B T w v d) (hs : d.small) (ht : ∀ s ∈ d.sec, s.size ≤ 1099511627776) (hu : ∀ x ∈ d.cache, x.text.size ≤ 1099511627776) (htz : t.size ≤ 1099511627776) (hs' : d.cache.length < 1073741824) :
    Calls Tryz.prog 159 #[v, .int .i64 a, .string t] w fun e w' => DiskR (wrD d a t) (decide (wrOk d a t)) w e w' := by
  obtain ⟨aa, ab, ca, cb, rfl⟩ := h.form; obtain ⟨hx0, hx1, b0, hsz⟩ := two_boxes w #[.slice aa d.sec.length ca, .slice ab d.cache.length cb] #[.slice none 0 0, .slice none 0 0] 27 27; have h' := h.later b0; go_enter Tryz.func159, Tryz.ntmps159
  go_wp2_with fail
  generalize ((w.alloc (.cells #[.slice aa d.sec.length ca, .slice ab d.cache.length cb] 27)).alloc (.cells #[.slice none 0 0, .slice none 0 0] 27)) = W at hx0 hx1 b0 hsz h' ⊢; refine (copyDisk_any d _ B T _ h' hs ht hu).mono ?_; rintro e w2 ⟨v2, rfl, o2, k2⟩; obtain ⟨a1, a2, q1, q2, rfl⟩ := o2.form; have k3 : Below w2.heap.size w2 (w2.alloc (.cells #[.slice a1 d.sec.length q1, .slice a2 d.cache.length q2] 27)) := belAlloc _ _; have y3 := Box.new w2 #[.slice a1 d.sec.length q1, .slice a2 d.cache.length q2] 27; have s3 : (w2.alloc (.cells #[.slice a1 d.sec.length q1, .slice a2 d.cache.length q2] 27)).heap.size = w2.heap.size + 1 := by simp
  have j3 := k2.trans (k3.mono k2.size); have o3 := o2.later k3; have h3 := h'.later j3; have X0 := Lib.hid (hx0.later j3); have X1 := Lib.hid (hx1.later j3); have s2 := k2.size; go_upto_region 2 with fail
  generalize w2.alloc (.cells #[.slice a1 d.sec.length q1, .slice a2 d.cache.length q2] 27) = w3 at k3 y3 s3 j3 o3 h3 X0 X1 ⊢; obtain ⟨va, vb, hv, l1, l2, hap⟩ := o3; simp only [Value.agg.injEq, Array.mk.injEq, List.cons.injEq, and_true] at hv; obtain ⟨rfl, rfl⟩ := hv; have hD1 := hs.1; have hD2 := hs.2; have L1 := Lib.hid l1; have L2 := Lib.hid l2; have Y3 := Lib.hid y3; have hin1 : ∀ k, (Value.slice a1 d.sec.length q1).ownBlock = some k → W.heap.size ≤ k ∧ k < w2.heap.size := fun k hk => ⟨(l1.1.own.lt k hk).1, l1.2.2 k hk⟩; have hin2 : ∀ k, (Value.slice a2 d.cache.length q2).ownBlock = some k → W.heap.size ≤ k ∧ k < w2.heap.size := fun k hk => ⟨(l2.1.own.lt k hk).1, l2.2.2 k hk⟩; have HIN := Lib.hid (And.intro hin1 hin2); have HAP := Lib.hid hap; have S3 := Lib.hid s3; go_cut [] (fun wx => ∃ (a6 : Option Addr) (q6 : Nat), Box wx w2.heap.size #[.slice a1 d.sec.length q1, .slice a6 (d.cache.length + 1) q6] 27 ∧ DOwn W.heap.size wx.heap.size wx (.agg #[.slice a1 d.sec.length q1, .slice a6 (d.cache.length + 1) q6]) ⟨d.sec, d.cache ++ [⟨a, t⟩]⟩ ∧ Below W.heap.size W wx)
  case first =>
    have HC : Hid (∀ (x : World) (o : Obj), Below w3.drew.heap.size w3.drew x → RBuf wrE W.heap.size (x.alloc o) (x.alloc o) (.slice a2 d.cache.length q2) d.cache ∧ x.cell? ⟨w2.heap.size, 1, none⟩ = some (.slice a2 d.cache.length q2) ∧ (x.alloc o).cell? ⟨w2.heap.size, 1, none⟩ = some (.slice a2 d.cache.length q2)) := by
      intro x o hx; have hx2 : Below w3.heap.size w3 x := ((Below.refl _ _).drew).trans hx; exact ⟨((L2.out.later hx2).1.alloc o).here, (Y3.out.later hx2).cell 1 _ rfl, ((Y3.out.later hx2).later (belAlloc _ _)).cell 1 _ rfl⟩
    have HC6 : Hid (∀ (x y : World) (o : Obj), Below w3.drew.heap.size w3.drew x → (x.alloc o).grownBy y (Value.slice a2 d.cache.length q2).ownBlock → Box y w2.heap.size #[.slice a1 d.sec.length q1, .slice a2 d.cache.length q2] 27 ∧ Below W.heap.size W y ∧ LOwn strE W.heap.size w2.heap.size y (.slice a1 d.sec.length q1) d.sec ∧ w2.heap.size < x.heap.size) := by
      intro x y o hx hg; have hx2 : Below w3.heap.size w3 x := ((Below.refl _ _).drew).trans hx; have hxo : Below w3.heap.size w3 (x.alloc o) := hx2.trans ((belAlloc x o).mono hx2.size); have bo := Y3.out.later hxo; have jx := j3.trans (hxo.mono j3.size); refine ⟨(hg.block _ bo.lt (fun e => by have := HIN.out.2 _ e.symm; omega)).trans bo, jx.grown hg jx.size (fun k hk => by have := HIN.out.2 k hk; omega), (L1.out.later hxo).grown hg HAP.out, ?_⟩; have := hx2.size; have := S3.out; omega
    have c1 := y3.cell 1 (.slice a2 d.cache.length q2) rfl; clear hx0 hx1 h h' h3 y3 l1 l2 hap hin1 hin2 o2 k2 k3 j3 s3 ht hu hsz; go_region_law (first
      | (go_simp; go_at_call 97; refine (clone_any _ _ (by omega)).mono ?_; rintro e w5 ⟨rfl, k5⟩; have c5 := (HC.out _ (.cells #[] 0) k5).2.1; have d5 := (HC.out _ (.cells #[.int .i64 a, .string t] 63) k5).2.2; dsimp only)
      | (refine step_append_rows (by rfl) _ _ wrE (by rfl) W.heap.size _ d.cache (by rfl) (HC.out _ _ k5).1 w5.heap.size _ [⟨a, t⟩] (by rfl) (RBuf.lit1 wrE w5 ⟨a, t⟩) (by simp [wrE]; omega) ?_; intro v6 w6 hr6 hg6 at6 lt6; obtain ⟨a6, q6, rfl⟩ := hr6.form; obtain ⟨bx6, bel6, ls6, sz6⟩ := HC6.out _ _ _ k5 hg6; have z1 := bx6.cell 1 (.slice a2 d.cache.length q2) rfl; have f1 := bx6.loose 1))
    all_goals
      go_wp2_with fail
      go_meet
      have e6 : (d.cache ++ [(⟨a, t⟩ : Wr)]).length = d.cache.length + 1 := by simp
      rw [e6] at hr6 at6
      have at7 : (Value.slice a6 (d.cache.length + 1) q6).ownBlock = (Value.slice a2 d.cache.length q2).ownBlock ∨ (Value.slice a6 (d.cache.length + 1) q6).ownBlock = some (w5.heap.size + 1) := by
        have sx : (w5.alloc (.cells #[.int .i64 a, .string t] 63)).heap.size = w5.heap.size + 1 := by simp
        rw [← sx]; exact at6
      have nO : (Value.slice a6 (d.cache.length + 1) q6).ownBlock ≠ some w2.heap.size := by
        rcases at7 with e | e
        · rw [e]; intro h; have := HIN.out.2 _ h; omega
        · rw [e]; intro h; have := Option.some.inj h; omega
      have f1' := ls6.storeHi w2.heap.size 1 (.slice a6 (d.cache.length + 1) q6) (Nat.le_refl _); have f2' := hr6.lown.grown (stored_grown w6 w2.heap.size 1 (.slice a6 (d.cache.length + 1) q6)) (.inr nO); have ss : (w6.setCell ⟨w2.heap.size, 1, none⟩ (.slice a6 (d.cache.length + 1) q6)).heap.size = w6.heap.size := (by simp); refine ⟨a6, q6, ?_, ⟨_, _, rfl, f1'.wider (Nat.le_trans ls6.2.1 (Nat.le_of_eq ss.symm)) (Nat.le_refl _), by rw [ss]; exact f2', ?_⟩, bel6.setCell (p := ⟨w2.heap.size, 1, none⟩) (by simpa using s2) _⟩
      · have := bx6.set 1 (.slice a6 (d.cache.length + 1) q6)
        simpa using this
      · rcases at7 with e | e
        · rw [e]; exact HAP.out
        · rw [e]
          refine .inr fun h => ?_; have := HIN.out.1 _ h; omega
  case rest =>
    obtain ⟨a6, q6, bx, ow, bel⟩ := hcut; have m0 := bx.cell 0 (.slice a1 d.sec.length q1) rfl; have m1 := bx.cell 1 (.slice a6 (d.cache.length + 1) q6) rfl; have hsm : (⟨d.sec, d.cache ++ [⟨a, t⟩]⟩ : Dk).small := ⟨hs.1, by show (d.cache ++ [(⟨a, t⟩ : Wr)]).length ≤ _; simp; omega⟩; have HHX := Lib.hid (And.intro (hx0.later bel) (hx1.later bel)); have HH := Lib.hid (h'.later bel); have OW := Lib.hid ow; have BX := Lib.hid bx; have HSZ := Lib.hid hsz; clear hx0 hx1 h h' o2 k2 k3 y3 s3 j3 h3 l1 l2 hap hin1 hin2 hsz bx; go_wp2_with fail
    clear m0 m1; refine (implDiskOk_any ⟨d.sec, d.cache ++ [⟨a, t⟩]⟩ _ _ ow.rd hsm).mono ?_; rintro e w7 ⟨rfl, k7⟩; rw [decide_eq_decide.2 (wrOk_iff d a t)]; have bel7 := bel.trans (k7.mono bel.size); have x1 := HHX.out.2.later k7; have r0 := x1.cell 0 (.slice none 0 0) rfl; have r1 := x1.cell 1 (.slice none 0 0) rfl; have f0 := x1.loose 0; have f1 := x1.loose 1; have hWl : Hid (w.heap.size + 1 < W.heap.size) := show _ < _ by have := HSZ.out; omega
    have bF := Lib.hid (b0.trans (bel7.mono b0.size)); by_cases hw : wrOk d a t
    · have E2 := Lib.hid (show wrD d a t = ⟨d.sec, d.cache ++ [⟨a, t⟩]⟩ from if_pos hw)
      rw [decide_eq_true hw]; have y7 := BX.out.later k7; have m0 := y7.cell 0 (.slice a1 d.sec.length q1) rfl; have m1 := y7.cell 1 (.slice a6 (d.cache.length + 1) q6) rfl; have O7 := Lib.hid ((OW.out.later k7).widen (Nat.le_refl _) k7.size (Nat.le_refl _)); clear y7 x1 bel bel7; go_wp2; refine bodyPost_ret (v := .tuple #[.agg #[.slice a1 d.sec.length q1, .slice a6 (d.cache.length + 1) q6], .bool true]) (by simp [results, Tryz.results159, go_sem, r0, r1]) rfl ?_; rw [E2.out, decide_eq_true hw]; exact ⟨_, rfl, ((O7.out.store (w.heap.size + 1) 0 (.slice a1 d.sec.length q1) hWl.out).store (w.heap.size + 1) 1 (.slice a6 (d.cache.length + 1) q6) hWl.out).widen (by have := hWl.out; omega) (by simp) (Nat.le_refl _), (bF.out.setCell (p := ⟨w.heap.size + 1, 0, none⟩) (by simp) _).setCell (p := ⟨w.heap.size + 1, 1, none⟩) (by simp) _⟩
    · have E2 := Lib.hid (show wrD d a t = d from if_neg hw)
      rw [decide_eq_false hw]; have x7 := HHX.out.1.later k7; have m0 := x7.cell 0 (.slice aa d.sec.length ca) rfl; have m1 := x7.cell 1 (.slice ab d.cache.length cb) rfl; have H7 := HH.out.later k7; clear x7 r0 r1 f0 f1; go_wp2_with fail
      clear m0 m1; refine (copyDisk_any d _ B T _ H7 hs ht hu).mono ?_; rintro e w8 ⟨v8, rfl, o8, k8⟩; obtain ⟨a8, a9, q8, q9, rfl⟩ := o8.form; have x8 := x1.later k8; have r0 := x8.cell 0 (.slice none 0 0) rfl; have r1 := x8.cell 1 (.slice none 0 0) rfl; have f0 := x8.loose 0; have f1 := x8.loose 1; have b8 := Lib.hid (bF.out.trans (k8.mono bF.out.size)); have O8 := Lib.hid o8; have s7 : Hid (W.heap.size ≤ w7.heap.size) := bel7.size; clear x8 x1 o8 bel bel7 H7 k8; go_wp2; refine bodyPost_ret (v := .tuple #[.agg #[.slice a8 d.sec.length q8, .slice a9 d.cache.length q9], .bool false]) (by simp [results, Tryz.results159, go_sem, r0, r1]) rfl ?_; rw [E2.out, decide_eq_false hw]; have hl7 : w.heap.size + 1 < w7.heap.size := Nat.lt_of_lt_of_le hWl.out s7.out; exact ⟨_, rfl, ((O8.out.store (w.heap.size + 1) 0 (.slice a8 d.sec.length q8) hl7).store (w.heap.size + 1) 1 (.slice a9 d.cache.length q9) hl7).widen (by omega) (by simp) (Nat.le_refl _), (b8.out.setCell (p := ⟨w.heap.size + 1, 0, none⟩) (by simp) _).setCell (p := ⟨w.heap.size + 1, 1, none⟩) (by simp) _⟩

/- Plain facts on bytes that are written over sectors: what WriteBytes makes of a disk, and what is read there. -/
def wbS (d : Dk) (k fr : Nat) (t : List UInt8) : ByteArray := ⟨(splice (secL ((rdO d (k : Int)).getD ⟨#[]⟩)) fr (t.take (32 - fr))).toArray⟩
def wbL (d : Dk) (k fr : Nat) (t : List UInt8) : Option Dk :=
  match t with
  | [] => some d
  | x :: l => if wrOk d (k : Int) (wbS d k fr (x :: l)) then wbL (wrD d (k : Int) (wbS d k fr (x :: l))) (k + 1) 0 (l.drop (31 - fr)) else none
termination_by t.length
decreasing_by simp; omega
theorem wbL_nil (d : Dk) (k fr : Nat) : wbL d k fr [] = some d := by rw [wbL]
theorem wbL_go {d : Dk} {k fr : Nat} {t : List UInt8} (ht : t ≠ []) (hf : fr < 32) (h : wrOk d (k : Int) (wbS d k fr t)) : wbL d k fr t = wbL (wrD d (k : Int) (wbS d k fr t)) (k + 1) 0 (t.drop (32 - fr)) := by
  cases t with
  | nil => exact absurd rfl ht
  | cons x l =>
    rw [wbL, if_pos h]; have : 32 - fr = (31 - fr) + 1 := by omega
    rw [this, List.drop_succ_cons]
theorem wbL_stop {d : Dk} {k fr : Nat} {t : List UInt8} (ht : t ≠ []) (h : ¬ wrOk d (k : Int) (wbS d k fr t)) : wbL d k fr t = none := by
  cases t with
  | nil => exact absurd rfl ht
  | cons x l => rw [wbL, if_neg h]
theorem wbS_size (d : Dk) (k fr : Nat) (t : List UInt8) (hf : fr < 32) : (wbS d k fr t).size = 32 := by
  show (splice (secL ((rdO d (k : Int)).getD ⟨#[]⟩)) fr (t.take (32 - fr))).toArray.size = 32
  rw [List.size_toArray, length_splice]
  · exact secL_length _
  · rw [secL_length, List.length_take]; omega
theorem splice_get {α : Type} {l m : List α} {o : Nat} (h : o + m.length ≤ l.length) (r : Nat) : (splice l o m)[r]? = if o ≤ r ∧ r < o + m.length then m[r - o]? else l[r]? := by
  unfold splice; have h1 : (l.take o).length = o := by rw [List.length_take]; omega
  by_cases hr : r < o
  · rw [if_neg (by omega), List.getElem?_append_left (by omega), List.getElem?_take, if_pos hr]
  · rw [List.getElem?_append_right (by omega), h1]
    by_cases hr2 : r < o + m.length
    · rw [if_pos (by omega), List.getElem?_append_left (by omega)]
    · rw [if_neg (by omega), List.getElem?_append_right (by omega), List.getElem?_drop]
      congr 1; omega
def bt (d : Dk) (P : Nat) : Option UInt8 := (rdO d ((P / 32 : Nat) : Int)).bind fun t => t.data.toList[P % 32]?
theorem rdO_ok {d : Dk} (h : d.ok) {k : Nat} (hk : k < d.sec.length) : ∃ t : ByteArray, rdO d (k : Int) = some t ∧ t.size = 32 := by
  unfold rdO; rw [if_pos ⟨by omega, by omega⟩]; refine ⟨_, rfl, ?_⟩; cases hl : lastAt d.cache (k : Int) with
  | some u =>
    obtain ⟨x, hx, e⟩ := lastAt_mem hl; rw [Option.getD_some, ← e]; exact (h.2.2.2.2 x hx).2.2
  | none =>
    rw [Option.getD_none, Int.toNat_natCast, List.getD_eq_getElem?_getD, List.getElem?_eq_getElem hk]; exact h.2.2.2.1 _ (List.getElem_mem hk)
theorem rdO_wr {d : Dk} {k : Nat} {s : ByteArray} (h : wrOk d (k : Int) s) (j : Nat) : rdO (wrD d (k : Int) s) (j : Int) = if j = k then some s else rdO d (j : Int) := by
  have hk : (k : Int) < d.sec.length := h.2.1.2; have e : wrD d (k : Int) s = ⟨d.sec, d.cache ++ [⟨(k : Int), s⟩]⟩ := if_pos h; rw [e]; unfold rdO; simp only [lastAt_append]; by_cases hj : j = k
  · subst hj
    rw [if_pos rfl, if_pos ⟨by omega, hk⟩, if_pos rfl]; rfl
  · rw [if_neg hj]
    have hne : ¬ (k : Int) = (j : Int) := by omega
    simp only [hne, if_false]
theorem secL_eq {t : ByteArray} (h : t.size = 32) : secL t = t.data.toList := by
  have hl : t.data.toList.length = 32 := by rw [Array.length_toList]; exact h
  unfold secL splice; rw [List.take_of_length_le (l := t.data.toList) (by omega), hl]; simp
theorem wbL_tells (n : Nat) : ∀ (t : List UInt8), t.length ≤ n → ∀ (d : Dk) (k fr : Nat), d.ok → fr < 32 → 32 * k + fr + t.length ≤ 32 * d.sec.length → d.cache.length + (fr + t.length + 31) / 32 ≤ 60 →
    ∃ d', wbL d k fr t = some d' ∧ d'.ok ∧ d'.sec = d.sec ∧ d'.cache.length ≤ d.cache.length + (fr + t.length + 31) / 32 ∧ ∀ P, bt d' P = if 32 * k + fr ≤ P ∧ P < 32 * k + fr + t.length then t[P - (32 * k + fr)]? else bt d P := by
  induction n with
  | zero =>
    intro t ht d k fr hok hf hl hc; obtain rfl : t = [] := List.length_eq_zero_iff.1 (by omega); exact ⟨d, wbL_nil _ _ _, hok, rfl, by omega, fun P => by rw [if_neg (by simp)]⟩
  | succ n ih =>
    intro t ht d k fr hok hf hl hc; by_cases h0 : t = []
    · subst h0
      exact ⟨d, wbL_nil _ _ _, hok, rfl, by omega, fun P => by rw [if_neg (by simp)]⟩
    · have htl : 0 < t.length := List.length_pos_iff.2 h0
      have hk : k < d.sec.length := (by omega); obtain ⟨o, ho, hos⟩ := rdO_ok hok hk; have hw : wrOk d (k : Int) (wbS d k fr t) := ⟨hok, ⟨by omega, by omega⟩, wbS_size d k fr t hf, by omega⟩; have e1 := wbL_go h0 hf hw; have hd1 : (wrD d (k : Int) (wbS d k fr t)) = ⟨d.sec, d.cache ++ [⟨(k : Int), wbS d k fr t⟩]⟩ := if_pos hw; have hok1 : (wrD d (k : Int) (wbS d k fr t)).ok := (by rw [hd1]; exact (wrOk_iff d _ _).2 hw); have hs1 : (wrD d (k : Int) (wbS d k fr t)).sec = d.sec := (by rw [hd1]); have hc1 : (wrD d (k : Int) (wbS d k fr t)).cache.length = d.cache.length + 1 := (by rw [hd1]; simp); have hdl : (t.drop (32 - fr)).length = t.length - (32 - fr) := List.length_drop; obtain ⟨d', h1, h2, h3, h4, h5⟩ := ih (t.drop (32 - fr)) (by omega) (wrD d (k : Int) (wbS d k fr t)) (k + 1) 0 hok1 (by omega) (by rw [hs1, hdl]; omega) (by rw [hc1, hdl]; omega); refine ⟨d', e1.trans h1, h2, h3.trans hs1, by rw [hc1, hdl] at h4; omega, fun P => ?_⟩; rw [h5 P, hdl]; have hb1 : bt (wrD d (k : Int) (wbS d k fr t)) P = if P / 32 = k then (wbS d k fr t).data.toList[P % 32]? else bt d P := by
        unfold bt; rw [rdO_wr hw (P / 32)]; by_cases hp : P / 32 = k
        · rw [if_pos hp, if_pos hp]; rfl
        · rw [if_neg hp, if_neg hp]
      have hs : (wbS d k fr t).data.toList = splice o.data.toList fr (t.take (32 - fr)) := by
        unfold wbS; rw [ho]; show splice (secL o) fr (t.take (32 - fr)) = _
        rw [secL_eq hos]
      have hol : o.data.toList.length = 32 := (by rw [Array.length_toList]; exact hos); have htk : (t.take (32 - fr)).length = min (32 - fr) t.length := List.length_take; have hbk : P / 32 = k → bt d P = o.data.toList[P % 32]? := by
        intro hp; unfold bt; rw [hp, ho]; rfl
      rw [hb1]; by_cases c1 : 32 * (k + 1) + 0 ≤ P ∧ P < 32 * (k + 1) + 0 + (t.length - (32 - fr))
      · rw [if_pos c1, if_pos (by omega), List.getElem?_drop]
        congr 1; omega
      · rw [if_neg c1]
        by_cases hp : P / 32 = k
        · rw [if_pos hp, hs, splice_get (by rw [htk, hol]; omega), htk]
          by_cases c2 : fr ≤ P % 32 ∧ P % 32 < fr + min (32 - fr) t.length
          · rw [if_pos c2, if_pos (by omega), List.getElem?_take, if_pos (by omega)]
            congr 1; omega
          · rw [if_neg c2, if_neg (by omega), hbk hp]
        · rw [if_neg hp, if_neg (by omega)]
theorem stL_ok {d : Dk} (h : d.ok) (a : Nat) : ∀ n : Nat, a + n ≤ d.sec.length → ∃ l, stL d (a : Int) n = some l ∧ l.length = 32 * n ∧ ∀ P, P < 32 * n → l[P]? = bt d (32 * a + P) := by
  intro n
  induction n with
  | zero => intro _; exact ⟨[], rfl, rfl, fun P hP => by omega⟩
  | succ n ih =>
    intro hn; obtain ⟨l, h1, h2, h3⟩ := ih (by omega); obtain ⟨o, ho, hos⟩ := rdO_ok h (k := a + n) (by omega); have hol : o.data.toList.length = 32 := by rw [Array.length_toList]; exact hos
    refine ⟨l ++ o.data.toList, stL_go h1 (by rw [← ho]; congr 1), by rw [List.length_append, h2, hol]; omega, fun P hP => ?_⟩; by_cases hp : P < 32 * n
    · rw [List.getElem?_append_left (by omega), h3 P hp]
    · rw [List.getElem?_append_right (by omega), h2]
      unfold bt; rw [show (32 * a + P) / 32 = a + n by omega, ho]; show _ = o.data.toList[(32 * a + P) % 32]?
      congr 1; omega

/- Segments: where they lie, and their texts: SegFirst, SegText, the model's and the program's. -/
def sgF (s : Int) : Int := if 0 ≤ s ∧ s ≤ 10 then 8 + 8 * s else 0
theorem sgF_yes {s : Int} (h : 0 ≤ s ∧ s ≤ 10) : sgF s = 8 + 8 * s := if_pos h
theorem sgF_no {s : Int} (h : ¬ (0 ≤ s ∧ s ≤ 10)) : sgF s = 0 := if_neg h
def sgT (d : Dk) (s : Int) : ByteArray := if 0 ≤ s ∧ s ≤ 10 then (match stL d (8 + 8 * s) 8 with
  | some l => ⟨l.toArray⟩
  | none => ⟨#[]⟩) else ⟨#[]⟩
theorem sgT_no {d : Dk} {s : Int} (h : ¬ (0 ≤ s ∧ s ≤ 10)) : sgT d s = ⟨#[]⟩ := if_neg h
theorem sgT_yes {d : Dk} {s : Int} (h : 0 ≤ s ∧ s ≤ 10) : ∃ f : Bool, stT d (8 + 8 * s) 8 = .tuple #[.string (sgT d s), .bool f] := by
  unfold sgT; rw [if_pos h]; cases hl : stL d (8 + 8 * s) 8 with
  | some l => exact ⟨true, stT_some (n := 8) (by omega) hl⟩
  | none => exact ⟨false, stT_none (n := 8) hl⟩
theorem rdO_sizeM {d : Dk} {a : Int} {t : ByteArray} {M : Nat} (h : rdO d a = some t) (ht : ∀ s ∈ d.sec, s.size ≤ M) (hu : ∀ x ∈ d.cache, x.text.size ≤ M) : t.size ≤ M := by
  have hin := rdO_in h; unfold rdO at h; rw [if_pos hin] at h; cases hl : lastAt d.cache a with
  | some u =>
    rw [hl] at h; obtain ⟨x, hx, e⟩ := lastAt_mem hl; cases h
    rw [← e]; exact hu x hx
  | none =>
    rw [hl] at h; have hk : a.toNat < d.sec.length := by omega
    simp [List.getD_eq_getElem?_getD, List.getElem?_eq_getElem hk] at h; rw [← h]; exact ht _ (List.getElem_mem hk)
theorem stL_size {d : Dk} {a : Int} {M : Nat} (ht : ∀ s ∈ d.sec, s.size ≤ M) (hu : ∀ x ∈ d.cache, x.text.size ≤ M) : ∀ (n : Nat) (l : List UInt8), stL d a n = some l → l.length ≤ n * M := by
  intro n
  induction n with
  | zero => intro l h; unfold stL at h; cases h; simp
  | succ n ih =>
    intro l h; unfold stL at h; cases hl : stL d a n with
    | none => rw [hl] at h; cases h
    | some l0 =>
      rw [hl] at h; cases hr : rdO d (a + (n : Int)) with
      | none => simp only [hr] at h; cases h
      | some t =>
        simp only [hr] at h; cases h
        have h1 := ih l0 hl; have h2 := rdO_sizeM hr ht hu; have h3 : t.data.toList.length = t.size := (by rw [Array.length_toList]; rfl); rw [List.length_append, Nat.succ_mul]; omega
theorem sgT_size {d : Dk} {M : Nat} (ht : ∀ s ∈ d.sec, s.size ≤ M) (hu : ∀ x ∈ d.cache, x.text.size ≤ M) (s : Int) : (sgT d s).size ≤ 8 * M := by
  unfold sgT
  split
  · cases hl : stL d (8 + 8 * s) 8 with
    | some l => exact stL_size ht hu 8 l hl
    | none => exact Nat.zero_le _
  · exact Nat.zero_le _
theorem segNumberOk_any (s : Int) (w : World) :
    Calls Tryz.prog 139 #[.int .i64 s] w fun e w' => e = .returned (.bool (decide (0 ≤ s ∧ s ≤ 10))) ∧ w = w' := by
  by_cases h1 : 0 ≤ s
  · have g2 : decide (s < 11) = decide (0 ≤ s ∧ s ≤ 10) := decide_eq_decide.2 ⟨fun h => ⟨h1, by omega⟩, fun h => by omega⟩
    rw [← g2]; clear g2; go_enter Tryz.func139, Tryz.ntmps139
    go_wp2; go_ret; exact ⟨rfl, rfl⟩
  · rw [decide_eq_false (show ¬ (0 ≤ s ∧ s ≤ 10) by omega)]
    go_enter Tryz.func139, Tryz.ntmps139
    go_wp2; go_ret; exact ⟨rfl, rfl⟩
theorem implSegFirst_any (s : Int) (w : World) :
    Calls Tryz.prog 141 #[.int .i64 s] w fun e w' => e = .returned (.int .i64 (sgF s)) ∧ w = w' := by
  by_cases h : 0 ≤ s ∧ s ≤ 10
  · rw [sgF_yes h]
    have hd := decide_eq_true h; go_enter Tryz.func141, Tryz.ntmps141
    go_wp2_with (go_at_call 139; refine (segNumberOk_any _ _).mono ?_; rintro e w1 ⟨rfl, rfl⟩; rw [hd])
    go_ret; exact ⟨rfl, rfl⟩
  · rw [sgF_no h]
    have hd := decide_eq_false h; go_enter Tryz.func141, Tryz.ntmps141
    go_wp2_with (go_at_call 139; refine (segNumberOk_any _ _).mono ?_; rintro e w1 ⟨rfl, rfl⟩; rw [hd])
    go_ret; exact ⟨rfl, rfl⟩
theorem specSegFirst_any (s : Int) (w : World) :
    Calls Tryz.prog 110 #[.int .i64 s] w fun e w' => e = .returned (.int .i64 (sgF s)) ∧ w = w' := by
  by_cases h : 0 ≤ s ∧ s ≤ 10
  · rw [sgF_yes h]
    go_enter Tryz.func110, Tryz.ntmps110
    go_wp2_with (go_at_call 52; refine (in_yes _ _ _ _ (by omega) (by omega)).mono ?_; rintro e w5 ⟨rfl, rfl⟩)
    go_ret; exact ⟨congrArg (fun z => Ending.returned (.int .i64 z)) (by omega), rfl⟩
  · rw [sgF_no h]
    go_enter Tryz.func110, Tryz.ntmps110
    go_wp2_with (go_at_call 52; refine (in_no _ _ _ _ h).mono ?_; rintro e w5 ⟨rfl, rfl⟩)
    go_ret; exact ⟨rfl, rfl⟩
theorem implSegText_any (d : Dk) (v : Value) (s : Int) (w : World) (h : DRd w v d) (hs : d.small) (ht : ∀ s ∈ d.sec, s.size ≤ 1099511627776) (hu : ∀ x ∈ d.cache, x.text.size ≤ 1099511627776) :
    Calls Tryz.prog 119 #[v, .int .i64 s] w fun e w' => e = .returned (.string (sgT d s)) ∧ Below w.heap.size w w' := by
  obtain ⟨aa, ab, ca, cb, rfl, _, _⟩ := h.form; have hx := Box.new w #[.slice aa d.sec.length ca, .slice ab d.cache.length cb] 27; have b0 : Below w.heap.size w (w.alloc (.cells #[.slice aa d.sec.length ca, .slice ab d.cache.length cb] 27)) := (Below.refl _ _).alloc (Nat.le_refl _) _; have h' := h.later b0; by_cases hin : 0 ≤ s ∧ s ≤ 10
  · have hd := decide_eq_true hin
    obtain ⟨f, hf⟩ := sgT_yes (d := d) hin; have HF := Lib.hid hf; have hsf := sgF_yes hin; clear hf h; go_enter Tryz.func119, Tryz.ntmps119
    go_upto_region 3 with (go_at_call 139; refine (segNumberOk_any _ _).mono ?_; rintro e w1 ⟨rfl, rfl⟩; rw [hd])
    generalize w.alloc (.cells #[.slice aa d.sec.length ca, .slice ab d.cache.length cb] 27) = W at hx b0 h' ⊢; have hD := h'.later ((Below.refl W.heap.size W).drew); have c0 := hx.cell 0 (.slice aa d.sec.length ca) rfl; have c1 := hx.cell 1 (.slice ab d.cache.length cb) rfl; have HS : Hid (∀ x, Below W.drew.heap.size W.drew x → x.cell? ⟨w.heap.size, 0, none⟩ = some (.slice aa d.sec.length ca) ∧ x.cell? ⟨w.heap.size, 1, none⟩ = some (.slice ab d.cache.length cb) ∧ Below w.heap.size w x) := by
      intro x hb; have hb2 : Below W.heap.size W x := ((Below.refl W.heap.size W).drew).trans hb; exact ⟨(hx.later hb2).cell 0 _ rfl, (hx.later hb2).cell 1 _ rfl, b0.trans (hb2.mono b0.size)⟩
    clear hx h'; go_region_held3 (fun x => x.cell? ⟨w.heap.size, 0, none⟩ = some (.slice aa d.sec.length ca) ∧ x.cell? ⟨w.heap.size, 1, none⟩ = some (.slice ab d.cache.length cb))
      (first | go_keep | exact ⟨(HS.out _ k2).1, (HS.out _ k2).2.1⟩)
      (first
        | (go_at_call 141; refine (implSegFirst_any _ _).mono ?_; rintro e w1 ⟨rfl, rfl⟩; rw [hsf])
        | (go_at_call 140; refine (implSectorText_any d _ (8 + 8 * s) 8 _ hD hs ht hu (by omega)).mono ?_; rintro e w2 ⟨rfl, k2⟩; rw [HF.out]))
    all_goals
      go_wp2
      go_ret
      exact ⟨rfl, (HS.out _ k2).2.2⟩
  · rw [sgT_no hin]
    have hd := decide_eq_false hin; clear h h'; go_enter Tryz.func119, Tryz.ntmps119
    go_wp2_with (go_at_call 139; refine (segNumberOk_any _ _).mono ?_; rintro e w1 ⟨rfl, rfl⟩; rw [hd])
    go_ret; exact ⟨rfl, b0⟩
theorem specSegText_any (d : Dk) (v : Value) (s : Int) (w : World) (h : DRd w v d) (hs : d.small) (ht : ∀ s ∈ d.sec, s.size ≤ 1099511627776) (hu : ∀ x ∈ d.cache, x.text.size ≤ 1099511627776) :
    Calls Tryz.prog 112 #[v, .int .i64 s] w fun e w' => e = .returned (.string (sgT d s)) ∧ Below w.heap.size w w' := by
  obtain ⟨aa, ab, ca, cb, rfl, _, _⟩ := h.form; have hx := Box.new w #[.slice aa d.sec.length ca, .slice ab d.cache.length cb] 27; have b0 : Below w.heap.size w (w.alloc (.cells #[.slice aa d.sec.length ca, .slice ab d.cache.length cb] 27)) := (Below.refl _ _).alloc (Nat.le_refl _) _; have h' := h.later b0; by_cases hin : 0 ≤ s ∧ s ≤ 10
  · obtain ⟨f, hf⟩ := sgT_yes (d := d) hin
    have HF := Lib.hid hf; have hsf := sgF_yes hin; clear hf h; go_enter Tryz.func112, Tryz.ntmps112
    go_upto_region 3 with (go_at_call 52; refine (in_yes _ _ _ _ (by omega) (by omega)).mono ?_; rintro e w5 ⟨rfl, rfl⟩)
    generalize w.alloc (.cells #[.slice aa d.sec.length ca, .slice ab d.cache.length cb] 27) = W at hx b0 h' ⊢; have hD := h'.later ((Below.refl W.heap.size W).drew); have c0 := hx.cell 0 (.slice aa d.sec.length ca) rfl; have c1 := hx.cell 1 (.slice ab d.cache.length cb) rfl; have HS : Hid (∀ x, Below W.drew.heap.size W.drew x → x.cell? ⟨w.heap.size, 0, none⟩ = some (.slice aa d.sec.length ca) ∧ x.cell? ⟨w.heap.size, 1, none⟩ = some (.slice ab d.cache.length cb) ∧ Below w.heap.size w x) := by
      intro x hb; have hb2 : Below W.heap.size W x := ((Below.refl W.heap.size W).drew).trans hb; exact ⟨(hx.later hb2).cell 0 _ rfl, (hx.later hb2).cell 1 _ rfl, b0.trans (hb2.mono b0.size)⟩
    clear hx h'; go_region_held3 (fun x => x.cell? ⟨w.heap.size, 0, none⟩ = some (.slice aa d.sec.length ca) ∧ x.cell? ⟨w.heap.size, 1, none⟩ = some (.slice ab d.cache.length cb))
      (first | go_keep | exact ⟨(HS.out _ k2).1, (HS.out _ k2).2.1⟩)
      (first
        | (go_at_call 110; refine (specSegFirst_any _ _).mono ?_; rintro e w1 ⟨rfl, rfl⟩; rw [hsf])
        | (go_at_call 133; refine (specSectorText_any d _ (8 + 8 * s) 8 _ hD hs ht hu).mono ?_; rintro e w2 ⟨rfl, k2⟩; rw [HF.out]))
    all_goals
      go_wp2
      go_ret
      exact ⟨rfl, (HS.out _ k2).2.2⟩
  · rw [sgT_no hin]
    clear h h'; go_enter Tryz.func112, Tryz.ntmps112
    go_wp2_with (go_at_call 52; refine (in_no _ _ _ _ hin).mono ?_; rintro e w5 ⟨rfl, rfl⟩)
    go_ret; exact ⟨rfl, b0⟩

/- Plain facts on segments: what is written in one stands there, and nowhere else. -/
theorem ba_ext' {a b : ByteArray} (h : a.data.toList = b.data.toList) : a = b := by
  obtain ⟨⟨x⟩⟩ := a; obtain ⟨⟨y⟩⟩ := b; simp at h; rw [h]
theorem seg_bytes {d : Dk} (h : d.ok) {i : Nat} (hi : i ≤ 10) (hl : 16 + 8 * i ≤ d.sec.length) : (sgT d (i : Int)).data.toList.length = 256 ∧ ∀ P, P < 256 → (sgT d (i : Int)).data.toList[P]? = bt d (32 * (8 + 8 * i) + P) := by
  obtain ⟨l, h1, h2, h3⟩ := stL_ok h (8 + 8 * i) 8 (by omega); have e : sgT d (i : Int) = ⟨l.toArray⟩ := by
    unfold sgT; rw [if_pos ⟨by omega, by omega⟩, show (8 + 8 * (i : Int)) = ((8 + 8 * i : Nat) : Int) by omega, h1]
  rw [e]; exact ⟨h2, fun P hP => h3 P hP⟩
theorem seg_size {d : Dk} (h : d.ok) {i : Nat} (hi : i ≤ 10) (hl : 16 + 8 * i ≤ d.sec.length) : (sgT d (i : Int)).size = 256 := by
  have := (seg_bytes h hi hl).1; rw [Array.length_toList] at this; exact this
theorem seg_wrote {d d' : Dk} (h : d.ok) (h' : d'.ok) (hs : d'.sec = d.sec) {s A : Nat} {t : ByteArray} (hA : A + t.size ≤ 256)
    (hb : ∀ P, bt d' P = if 32 * (8 + 8 * s) + A ≤ P ∧ P < 32 * (8 + 8 * s) + A + t.data.toList.length then t.data.toList[P - (32 * (8 + 8 * s) + A)]? else bt d P) {i : Nat} (hi : i ≤ 10) (hl : 16 + 8 * i ≤ d.sec.length) :
    sgT d' (i : Int) = if i = s then (sgT d (i : Int)).extract 0 A ++ t ++ (sgT d (i : Int)).extract (A + t.size) (sgT d (i : Int)).size else sgT d (i : Int) := by
  obtain ⟨l1, p1⟩ := seg_bytes h hi hl; obtain ⟨l2, p2⟩ := seg_bytes h' hi (by rw [hs]; exact hl); have htl : t.data.toList.length = t.size := by rw [Array.length_toList]; rfl
  have hsz := seg_size h hi hl; by_cases e : i = s
  · subst e
    rw [if_pos rfl]; apply ba_ext'; have e1 : ((sgT d (i : Int)).extract 0 A ++ t ++ (sgT d (i : Int)).extract (A + t.size) (sgT d (i : Int)).size).data.toList = (sgT d (i : Int)).data.toList.take A ++ t.data.toList ++ (sgT d (i : Int)).data.toList.drop (A + t.size) := by
      rw [ByteArray.data_append, ByteArray.data_append, Array.toList_append, Array.toList_append, ByteArray.data_extract, ByteArray.data_extract, Array.toList_extract, Array.toList_extract, List.extract_eq_take_drop, List.extract_eq_take_drop, hsz]; rw [List.drop_zero, Nat.sub_zero]; congr 1; rw [List.take_of_length_le]; rw [List.length_drop, l1]; exact Nat.le_refl _
    rw [e1]; apply List.ext_getElem?; intro P; have hAl : ((sgT d (i : Int)).data.toList.take A).length = A := by rw [List.length_take, l1]; omega
    by_cases hP : P < 256
    · rw [p2 P hP, hb, htl]
      by_cases c1 : P < A
      · rw [if_neg (by omega), List.append_assoc, List.getElem?_append_left (by omega), List.getElem?_take, if_pos c1, p1 P hP]
      · by_cases c2 : P < A + t.size
        · rw [if_pos (by omega), List.append_assoc, List.getElem?_append_right (by omega), hAl, List.getElem?_append_left (by omega)]
          congr 1; omega
        · rw [if_neg (by omega), List.getElem?_append_right (by rw [List.length_append, hAl]; omega), List.length_append, hAl, htl, List.getElem?_drop, ← p1 P hP]
          congr 1; omega
    · rw [List.getElem?_eq_none (by omega), List.getElem?_eq_none]
      rw [List.length_append, List.length_append, hAl, List.length_drop, l1]; omega
  · rw [if_neg e]
    apply ba_ext'; apply List.ext_getElem?; intro P; by_cases hP : P < 256
    · rw [p2 P hP, p1 P hP, hb, htl, if_neg (by omega)]
    · rw [List.getElem?_eq_none (by omega), List.getElem?_eq_none (by omega)]

/- Rows of sectors: how they lie in memory, and the texts of them. -/
def secE : Enc Sec where
  ty := 127
  sty := 205
  sz := 32
  bytes := 32
  zero := .agg z32
  f := fun s => bytesV s.1
  len := fun s => by rw [bytesV_length, s.2]
  pos := by decide
  one := fun s => bytesV_one _
  und := Tryz.underlying205
  info := by kernel_rfl
  zc := rfl
  z0 := ⟨List.replicate 32 0, rfl⟩
  zf := rfl
theorem wpList_build_sec {w : World} {ops : Array Oper} {rest : List Oper} {o : Oper} {a : Act} {Q : Exit → Act → World → Prop} (hgd : o.guard = none) (x : Operand) (ho : o.op = .buildSlice 205 1 #[(0, x)]) (s : Sec) (hx : a.eval x = s.v)
    (h : wpList Tryz.prog ops Q rest (a.put o.dst (.slice (some ⟨w.heap.size, 0, none⟩) 1 1)) (w.alloc (.cells (bytesV s.1).toArray 127))) : wpList Tryz.prog ops Q (o :: rest) a w := by
  obtain ⟨i0, hi, hz0, hz1, hz2⟩ := info_parts secE.info; have hz1' : i0.size = 32 := hz1; refine wpList_buildSlice hgd _ _ 1 _ ho (bytesV s.1).toArray i0 secE.zero secE.und hi hz0 (by rw [hz1']; decide) (by rw [hz1']; decide) ?_ h; have := Great.fill_whole (s := 32) (by decide) [s.v] ((Array.range (1 * 32)).map (secE.zero.cells[· % secE.zero.cells.size]!)) (fun v hv => by simp at hv; subst hv; exact s.size) (by simp); rw [hz1']; have e1 : (#[(0, x)].map fun (i, y) => (i, a.eval y)).toList = ([s.v].zipIdx 0).map fun x => (x.2, x.1) := by simp [hx]
  rw [e1, this]; congr 1; simp [Sec.v, Value.cells]
def Sec.str (s : Sec) : ByteArray := ⟨s.1.toArray⟩
theorem wpList_make_room {α : Type} {w : World} {ops : Array Oper} {rest : List Oper} {o : Oper} {a : Act} {Q : Exit → Act → World → Prop} (hg : o.guard = none) (x c : Operand) (E : Enc α) (hop : o.op = Op.makeSlice E.sty x c)
    (kl kc : IntKind) (C : Int) (n : Nat) (hl : a.eval x = .int kl 0) (hc : a.eval c = .int kc C) (hC : C = (n : Int)) (hn : (E.bytes + 1) * n ≤ 281474976710656)
    (h : ∀ w', RBuf E w.heap.size w w' (.slice (some ⟨w.heap.size, 0, none⟩) 0 n) [] → wpList Tryz.prog ops Q rest (a.put o.dst (.slice (some ⟨w.heap.size, 0, none⟩) 0 n)) w') : wpList Tryz.prog ops Q (o :: rest) a w := by
  obtain ⟨i0, hi, hz0, hz1, hz2⟩ := info_parts E.info; have e0 : (E.bytes + 1) * n = E.bytes * n + n := Nat.succ_mul _ _; refine wpList_make_own w hg x c E.sty hop w.heap.size E.ty i0 E.zero E.sz E.und hi hz0 hz1 kl kc C n hl hc hC (by rw [hz2]; omega) (by unfold maxLen; omega) (Nat.le_refl _) ?_; intro w' hown hgrow; exact h w' ⟨hown, (Below.refl _ _).grown hgrow (Nat.le_refl _) (fun k hk => by cases hk), hgrow.size⟩
theorem RBuf.range {B : Nat} {w0 w : World} {g cap : Nat} {l : List Sec} (h : RBuf secE B w0 w (.slice (some ⟨g, 0, none⟩) l.length cap) l) (i : Nat) (s : Sec) (hi : l[i]? = some s) : w.rangeAt g (i * 32) (bytesV s.1) :=
  fun j v hv => h.cell rfl i s hi j v hv
theorem sectorTexts_any (l : List Sec) (v : Value) (B : Nat) (w : World) (h : RBuf secE B w w v l) (hl : l.length ≤ 1048576) :
    Calls Tryz.prog 160 #[v] w fun e w' => ∃ v', e = .returned v' ∧ RBuf strE w.heap.size w w' v' (l.map Sec.str) := by
  obtain ⟨av, cv, rfl⟩ := h.form; have H := Lib.hid h; clear h; go_enter Tryz.func160, Tryz.ntmps160
  go_wp2_with (at_make; refine wpList_make_room rfl _ _ strE rfl .i64 .i64 _ l.length rfl rfl rfl (by show 17 * l.length ≤ _; omega) ?_; intro w1 hr1)
  have HR1 := Lib.hid hr1; clear hr1; go_loopw [3, 11] (fun tv iv wr => ∃ i : Nat, i ≤ l.length ∧ iv = .int .i64 (i : Int) ∧ RBuf strE w.heap.size w wr tv ((l.take i).map Sec.str)) (fun _ iv _ => l.length - (intOf iv).toNat)
  case atStart => exact ⟨0, by omega, rfl, HR1.out⟩
  case round =>
    obtain ⟨i, hi, rfl, hr⟩ := hrel; obtain ⟨pt, ct, rfl⟩ := hr.form; by_cases hlt : i < l.length
    · have hlen : ((l.take i).map Sec.str).length = i := by simp; omega
      rw [hlen] at hr ⊢; have hat := List.getElem?_eq_getElem hlt; have hs := Lib.hid (H.out.later hr.bel); obtain ⟨g, rfl⟩ : ∃ g : Nat, av = some ⟨g, 0, none⟩ := by
        rcases H.out.own.2 with ⟨_, e⟩ | ⟨g, cap, cur, e, _⟩
        · omega
        · simp only [Value.slice.injEq] at e; exact ⟨g, e.1⟩
      have rg := hs.out.range i _ hat
      have htk := Lib.hid (List.take_succ_eq_append_getElem hlt); clear hat
      generalize l[i] = s at *; have hi0 : (0 : Int) ≤ (i : Int) := (by omega); have hi1 : (i : Int) < (l.length : Int) := (by omega); have HR := Lib.hid hr; have ne : (Value.slice pt i ct).ownBlock ≠ some wr.heap.size := fun e => by have := (hr.own.lt _ e).2; omega
      have NE := Lib.hid ne; have SW : Hid (w.heap.size ≤ wr.heap.size) := hr.le; have hcp : ((l.take i).map Sec.str).length + [s.str].length ≤ 1048577 := (by simp; omega); clear hr hlen ne; go_wp2_with (first
        | ((with_reducible refine wpList_load_mid_sec rfl _ rfl g (i * 32) ?_ s rg ?_); exact rfl)
        | ((with_reducible refine wpList_store_sec rfl _ _ rfl wr.heap.size s ?_ ?_ _ _ (Box.new wr _ _) ?_ ?_); exact rfl; exact rfl; exact rfl; intro w3 x3 g3)
        | ((with_reducible refine wpList_load_sec rfl _ rfl wr.heap.size ?_ s _ x3 ?_); exact rfl)
        | (go_at_call 88; refine (text_any s _).mono ?_; rintro e w4 ⟨rfl, k4⟩; have r4 := (((HR.out.alloc _).grown g3 (.inr NE.out) (fun k hk => by have : wr.heap.size = k := Option.some.inj hk; have := SW.out; omega)).later k4); have R4 := Lib.hid r4; have R5 := Lib.hid ((r4.alloc (.cells #[.string s.str] 9)).here); clear r4)
        | (at_builtin; refine wpList_append_rows rfl _ _ strE rfl w.heap.size _ _ rfl R5.out w4.heap.size _ [s.str] rfl (RBuf.lit1 strE w4 s.str) (by show _ * 17 ≤ _; omega) ?_; intro v6 w6 r6 g6 at6; obtain ⟨a6, q6, rfl⟩ := r6.form))
      have e6 : ((l.take i).map Sec.str ++ [s.str]).length = i + 1 := (by simp; omega); rw [e6] at r6; have b6 : Below w.heap.size w w6 := (R4.out.alloc (.cells #[.string s.str] 9)).bel.grown g6 (R4.out.alloc (.cells #[.string s.str] 9)).le (fun k hk => (R4.out.own.lt k hk).1); have f6 : RBuf strE w.heap.size w w6 (.slice a6 (i + 1) q6) ((l.take (i + 1)).map Sec.str) := by
        rw [htk.out, List.map_append]; exact ⟨r6.own, b6, r6.le⟩
      go_roundw
      case rel => exact ⟨i + 1, by omega, by go_num, f6⟩
      case measure => simp [intOf]; omega
    · have hfin : Hid (l.take i = l) := List.take_of_length_le (by omega)
      rw [hfin.out] at hr ⊢; have HR := Lib.hid hr; clear hr; go_wp2; go_ret; exact ⟨_, rfl, HR.out⟩

/- Disks: what the model's FlushDisk hands back. -/
def flush (sec : List ByteArray) (c : List Wr) : List ByteArray := c.foldl (fun s x => s.set x.at_.toNat x.text) sec
theorem flush_length (sec : List ByteArray) (c : List Wr) : (flush sec c).length = sec.length := by
  induction c generalizing sec with
  | nil => rfl
  | cons x c ih =>
    have : flush sec (x :: c) = flush (sec.set x.at_.toNat x.text) c := rfl; rw [this, ih]; simp
theorem flush_take {sec : List ByteArray} {c : List Wr} {i : Nat} (h : i < c.length) : flush sec (c.take (i + 1)) = (flush sec (c.take i)).set c[i].at_.toNat c[i].text := by
  rw [List.take_succ_eq_append_getElem h, flush, flush, List.foldl_append]; rfl
theorem flush_all {sec : List ByteArray} {c : List Wr} {i : Nat} (h : c.length ≤ i) : flush sec (c.take i) = flush sec c := by rw [List.take_of_length_le h]
def flD (d : Dk) : Dk := if d.ok then ⟨flush d.sec d.cache, []⟩ else d
def DiskR1 (d : Dk) (w : World) (e : Ending) (w' : World) : Prop := ∃ v', e = .returned v' ∧ DOwn w.heap.size w'.heap.size w' v' d ∧ Below w.heap.size w w'
theorem RBuf.drew' {α : Type} {E : Enc α} {B : Nat} {w : World} {v : Value} {l : List α} (h : RBuf E B w w v l) : RBuf E B w.drew w.drew v l := ⟨h.own.drew, Below.refl _ _, h.le⟩
theorem Box.kept {b B T : Nat} {w w' : World} {cs : Array Value} {t : TypeId} (h : Box w b cs t) (hk : Kept B T w w') (hb : b < B ∨ T ≤ b) : Box w' b cs t := (hk.block b h.lt hb).trans h
theorem specFlushDisk_any (d : Dk) (v : Value) (B T : Nat) (w : World) (h : DOwn B T w v d) (hs : d.small) (ht : ∀ s ∈ d.sec, s.size ≤ 1099511627776) (hu : ∀ x ∈ d.cache, x.text.size ≤ 1099511627776) :
    Calls Tryz.prog 79 #[v] w fun e w' => DiskR1 (flD d) w e w' := by
  obtain ⟨aa, ab, ca, cb, rfl⟩ := h.form; obtain ⟨hx0, hx1, b0, hsz⟩ : Box ((w.alloc (.cells #[.slice aa d.sec.length ca, .slice ab d.cache.length cb] 27)).alloc (.cells #[.slice none 0 0, .slice none 0 0] 27)) w.heap.size #[.slice aa d.sec.length ca, .slice ab d.cache.length cb] 27 ∧
      Box ((w.alloc (.cells #[.slice aa d.sec.length ca, .slice ab d.cache.length cb] 27)).alloc (.cells #[.slice none 0 0, .slice none 0 0] 27)) (w.heap.size + 1) #[.slice none 0 0, .slice none 0 0] 27 ∧
      Below w.heap.size w ((w.alloc (.cells #[.slice aa d.sec.length ca, .slice ab d.cache.length cb] 27)).alloc (.cells #[.slice none 0 0, .slice none 0 0] 27)) ∧
      ((w.alloc (.cells #[.slice aa d.sec.length ca, .slice ab d.cache.length cb] 27)).alloc (.cells #[.slice none 0 0, .slice none 0 0] 27)).heap.size = w.heap.size + 2 := by
    have e1 : (w.alloc (.cells #[.slice aa d.sec.length ca, .slice ab d.cache.length cb] 27)).heap.size = w.heap.size + 1 := by simp
    have q0 := Box.new w #[.slice aa d.sec.length ca, .slice ab d.cache.length cb] 27; have q1 := Box.new (w.alloc (.cells #[.slice aa d.sec.length ca, .slice ab d.cache.length cb] 27)) #[.slice none 0 0, .slice none 0 0] 27; rw [e1] at q1; exact ⟨q0.later ((Below.refl _ _).alloc (Nat.le_refl _) _), q1, ((Below.refl _ _).alloc (Nat.le_refl _) _).alloc (by simp) _, by simp⟩
  have h' := h.later b0; have hTw : T ≤ w.heap.size := by obtain ⟨_, _, _, l1, _⟩ := h; exact l1.2.1
  go_enter Tryz.func79, Tryz.ntmps79
  go_wp2_with fail
  generalize ((w.alloc (.cells #[.slice aa d.sec.length ca, .slice ab d.cache.length cb] 27)).alloc (.cells #[.slice none 0 0, .slice none 0 0] 27)) = W at hx0 hx1 b0 hsz h' ⊢; refine (specCopy_any d _ B T _ h' hs).mono ?_; rintro e w2 ⟨v2, rfl, o2, k2⟩; obtain ⟨a1, a2, q1, q2, rfl⟩ := o2.form; have k3 : Below w2.heap.size w2 (w2.alloc (.cells #[.slice a1 d.sec.length q1, .slice a2 d.cache.length q2] 27)) := (Below.refl _ _).alloc (Nat.le_refl _) _; have y3 := Box.new w2 #[.slice a1 d.sec.length q1, .slice a2 d.cache.length q2] 27; have j3 := k2.trans (k3.mono k2.size); have o3 := o2.later k3; have c0 := (hx0.later j3).cell 0 (.slice aa d.sec.length ca) rfl; have c1 := (hx0.later j3).cell 1 (.slice ab d.cache.length cb) rfl; have h3 := h'.later j3; have s2 := k2.size; clear h h' o2; go_wp2_with fail
  clear c0 c1; generalize hw3 : w2.alloc (.cells #[.slice a1 d.sec.length q1, .slice a2 d.cache.length q2] 27) = w3 at *; have s3 : w3.heap.size = w2.heap.size + 1 := by rw [← hw3]; simp
  refine (specDiskOk_any d _ _ h3.rd hs ht hu).mono ?_; rintro e w4 ⟨rfl, k4⟩; have j4 := j3.trans (k4.mono j3.size); have x4 := hx0.later j4; have r4 := hx1.later j4; have y4 := y3.later k4; have o4 := o3.later k4; have h4 := h3.later k4; have bF : Below w.heap.size w w4 := b0.trans (j4.mono b0.size); have s4 := k4.size; have hD1 := hs.1; have hD2 := hs.2; clear hx0 hx1 y3 h3 o3 ht hu hs; by_cases hok : d.ok
  · rw [decide_eq_true hok]
    have HYES := Lib.hid (show flD d = ⟨flush d.sec d.cache, []⟩ from if_pos hok); obtain ⟨va, vb, hv, l1, l2, hap⟩ := o4; simp only [Value.agg.injEq, Array.mk.injEq, List.cons.injEq, and_true] at hv; obtain ⟨rfl, rfl⟩ := hv; obtain ⟨g1, rfl⟩ : ∃ g1 : Nat, a1 = some ⟨g1, 0, none⟩ := by
      rcases l1.1.own.2 with ⟨_, e⟩ | ⟨g, cap, cur, e, _⟩
      · have := hok.1; omega
      · simp only [Value.slice.injEq] at e; exact ⟨g, e.1⟩
    have hg1 : W.heap.size ≤ g1 ∧ g1 < w2.heap.size := ⟨(l1.1.own.lt g1 rfl).1, l1.2.2 g1 rfl⟩; have hcells : ∀ x ∈ d.cache, 0 ≤ x.at_ ∧ x.at_ < d.sec.length := fun x hx => ⟨(hok.2.2.2.2 x hx).1, (hok.2.2.2.2 x hx).2.1⟩; have H4 := Lib.hid h4; have X4 := Lib.hid x4; have R4 := Lib.hid r4; have Y4 := Lib.hid y4; have HC := Lib.hid hcells; clear h4 x4 r4 y4 hcells l2 hap; go_wp2; go_loopw [4] (fun iv wr => ∃ i : Nat, i ≤ d.cache.length ∧ iv = .int .i64 (i : Int) ∧ RBuf strE W.heap.size wr wr (.slice (some ⟨g1, 0, none⟩) d.sec.length q1) (flush d.sec (d.cache.take i)) ∧ Kept W.heap.size w2.heap.size w4 wr) (fun iv _ => d.cache.length - (intOf iv).toNat)
    case atStart => exact ⟨0, by omega, rfl, l1.1, Kept.of_below (Below.refl _ _) _ _⟩
    case round =>
      obtain ⟨i, hi, rfl, hbr, hkp⟩ := hrel; have x5 := X4.out.kept hkp (.inl (by omega)); have r5 := R4.out.kept hkp (.inl (by omega)); have y5 := Y4.out.kept hkp (.inr (Nat.le_refl _)); by_cases hlt : i < d.cache.length
      · have h5 := H4.out.kept hkp (.inl (by omega))
        obtain ⟨_, _, hv5, _, l5, _⟩ := h5; simp only [Value.agg.injEq, Array.mk.injEq, List.cons.injEq, and_true] at hv5; obtain ⟨rfl, rfl⟩ := hv5; obtain ⟨g, off, rfl, hcl⟩ := l5.rows.at i hlt; have d0 : wr.cell? ⟨g, off + i * 2, none⟩ = some (.int .i64 d.cache[i].at_) := hcl wr (Below.refl _ _) 0 _ rfl; have d1 : wr.cell? ⟨g, off + i * 2 + 1, none⟩ = some (.string d.cache[i].text) := hcl wr (Below.refl _ _) 1 _ rfl; obtain ⟨hx1, hx2⟩ := HC.out _ (List.getElem_mem hlt); have hft := Lib.hid (flush_take (sec := d.sec) hlt); have hfl := flush_length d.sec (d.cache.take i); clear hcl l5; generalize d.cache[i] = x at *; obtain ⟨n, t⟩ := x; simp only at d0 d1 hx1 hx2 hft; obtain ⟨k, rfl⟩ := Int.eq_ofNat_of_zero_le hx1; rw [Int.toNat_natCast] at hft; have hk : k < (flush d.sec (d.cache.take i)).length := (by omega); have hat := List.getElem?_eq_getElem hk; rw [← hfl] at hbr; have cs : wr.cell? ⟨g1, k, none⟩ = some (.string (flush d.sec (d.cache.take i))[k]) := by
          have := hbr.cell rfl k _ hat 0 _ rfl; rw [show strE.sz = 1 from rfl, Nat.mul_one, Nat.add_zero] at this; exact this
        have fs := hbr.loose k; have hst := hbr.stored k _ t hat 0 (by decide) (.string t) rfl; rw [show strE.sz = 1 from rfl, Nat.mul_one, Nat.add_zero, ← hft.out, hfl] at hst; have hk2 : Kept W.heap.size w2.heap.size w4 (wr.setCell ⟨g1, k, none⟩ (.string t)) := hkp.trans (Kept.of_grown (stored_grown wr g1 k (.string t)) (fun j hj => by have := Option.some.inj hj; omega)); have m1 := x5.cell 1 (.slice (some ⟨g, off, none⟩) d.cache.length cb) rfl; have n0 := y5.cell 0 (.slice (some ⟨g1, 0, none⟩) d.sec.length q1) rfl; have hi0 : (0 : Int) ≤ (i : Int) := (by omega); have hi1 : (i : Int) < (d.cache.length : Int) := (by omega); have hk0 : (0 : Int) ≤ (k : Int) := (by omega); generalize (flush d.sec (d.cache.take i))[k] = old at cs; have HST := Lib.hid hst; have HK2 := Lib.hid hk2; clear hbr hkp hat x5 r5 y5 hst hk2 hk hfl; go_wp2; go_region
        all_goals
          go_wp2
          go_roundw
          case rel => exact ⟨i + 1, by omega, by go_num, HST.out.here.drew', HK2.out.trans (Kept.of_below ((Below.refl _ _).drew) _ _)⟩
          case measure => simp [intOf]; omega
      · rw [flush_all (by omega)] at hbr
        have x1 := x5.cell 1 (.slice ab d.cache.length cb) rfl; have kA : Below wr.heap.size wr (wr.alloc (.cells #[] 63)) := (Below.refl _ _).alloc (Nat.le_refl _) _; have y6 := y5.later kA; have r6 := r5.later kA; have m0 := y6.cell 0 (.slice (some ⟨g1, 0, none⟩) d.sec.length q1) rfl; have m1 := y6.cell 1 (.slice a2 d.cache.length q2) rfl; have n1 := y6.loose 1; have r0 := r6.cell 0 (.slice none 0 0) rfl; have r1 := r6.cell 1 (.slice none 0 0) rfl; have f0 := r6.loose 0; have f1 := r6.loose 1; have sA : (wr.alloc (.cells #[] 63)).heap.size = wr.heap.size + 1 := (by simp); have hfl := flush_length d.sec d.cache; have hwr : w4.heap.size ≤ wr.heap.size := hkp.size; have LS := Lib.hid (show LOwn strE W.heap.size w2.heap.size (wr.alloc (.cells #[] 63)) (.slice (some ⟨g1, 0, none⟩) d.sec.length q1) (flush d.sec d.cache) from LOwn.later ⟨hbr, by omega, fun j hj => by have : g1 = j := Option.some.inj hj; omega⟩ kA); have LC := Lib.hid (show LOwn wrE wr.heap.size (wr.alloc (.cells #[] 63)).heap.size (wr.alloc (.cells #[] 63)) (.slice (some ⟨wr.heap.size, 0, none⟩) 0 0) [] from (RBuf.fresh wrE wr).lown); have BA := Lib.hid ((hkp.below bF (by omega) bF.size).alloc (Nat.le_trans bF.size hkp.size) (.cells #[] 63)); clear x5 r5 y5 y6 r6 hbr hkp kA; go_wp2; have q1' := ((LS.out.storeHi w2.heap.size 1 (.slice (some ⟨wr.heap.size, 0, none⟩) 0 0) (Nat.le_refl _)).store (w.heap.size + 1) 0 (.slice (some ⟨g1, 0, none⟩) d.sec.length q1) (by omega)).store (w.heap.size + 1) 1 (.slice (some ⟨wr.heap.size, 0, none⟩) 0 0) (by omega); have q2' := ((LC.out.store w2.heap.size 1 (.slice (some ⟨wr.heap.size, 0, none⟩) 0 0) (by omega)).store (w.heap.size + 1) 0 (.slice (some ⟨g1, 0, none⟩) d.sec.length q1) (by omega)).store (w.heap.size + 1) 1 (.slice (some ⟨wr.heap.size, 0, none⟩) 0 0) (by omega); have bE := ((BA.out.setCell (p := ⟨w2.heap.size, 1, none⟩) (by simp; omega) (.slice (some ⟨wr.heap.size, 0, none⟩) 0 0)).setCell (p := ⟨w.heap.size + 1, 0, none⟩) (by simp) (.slice (some ⟨g1, 0, none⟩) d.sec.length q1)).setCell (p := ⟨w.heap.size + 1, 1, none⟩) (by simp) (.slice (some ⟨wr.heap.size, 0, none⟩) 0 0); refine bodyPost_ret (v := .agg #[.slice (some ⟨g1, 0, none⟩) d.sec.length q1, .slice (some ⟨wr.heap.size, 0, none⟩) 0 0]) (by simp [results, Tryz.results79, go_sem, r0, r1]) rfl ?_; rw [HYES.out]; refine ⟨_, rfl, ⟨_, _, rfl, (q1'.deeper (by omega)).wider (by simp; omega) (Nat.le_refl _), (q2'.deeper (by omega)).wider (by simp) (Nat.le_refl _), .inr fun e => ?_⟩, bE⟩; have : g1 = wr.heap.size := Option.some.inj e; omega
  · rw [decide_eq_false hok]
    have HNO := Lib.hid (show flD d = d from if_neg hok); have r0 := r4.cell 0 (.slice none 0 0) rfl; have r1 := r4.cell 1 (.slice none 0 0) rfl; have f0 := r4.loose 0; have f1 := r4.loose 1; have m0 := y4.cell 0 (.slice a1 d.sec.length q1) rfl; have m1 := y4.cell 1 (.slice a2 d.cache.length q2) rfl; clear x4 r4 y4 h4; go_wp2; refine bodyPost_ret (v := .agg #[.slice a1 d.sec.length q1, .slice a2 d.cache.length q2]) (by simp [results, Tryz.results79, go_sem, r0, r1]) rfl ?_; rw [HNO.out]; exact ⟨_, rfl, ((o4.store (w.heap.size + 1) 0 (.slice a1 d.sec.length q1) (by omega)).store (w.heap.size + 1) 1 (.slice a2 d.cache.length q2) (by omega)).widen (by omega) (by simp; omega) (Nat.le_refl _), (bF.setCell (p := ⟨w.heap.size + 1, 0, none⟩) (by simp) _).setCell (p := ⟨w.heap.size + 1, 1, none⟩) (by simp) _⟩
end Go.Proofs.YtklkhllkjnbhjaaGreatDoor
