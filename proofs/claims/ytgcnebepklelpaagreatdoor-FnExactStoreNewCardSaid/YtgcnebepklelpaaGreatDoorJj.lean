/- Texts of our own, joined. -/
import Derived.Test.YtgcnebepklelpaaGreatDoorJh
import Derived.Deep.Cut
import Derived.Test.YtgcnebepklelpaaGreatDoorJa
import Derived.Test.YtgcnebepklelpaaGreatDoorJi
import Derived.Deep.RegionLaw
import Derived.Test.YtgcnebepklelpaaGreatDoorJf
import Derived.Test.YtgcnebepklelpaaGreatDoorJg
import Derived.Test.YtgcnebepklelpaaGreatDoorJb
import Derived.Great.BuildSlice
/- Segments: where they lie, and their texts: SegFirst, SegText, the model's and the program's. -/
namespace Go.Proofs.YtgcnebepklelpaaGreatDoor
open Go.RowKit

def sgF (s : Int) : Int := if 0 ≤ s ∧ s ≤ 10 then 8 + 8 * s else 0
theorem sgF_yes {s : Int} (h : 0 ≤ s ∧ s ≤ 10) : sgF s = 8 + 8 * s := if_pos h
theorem sgF_no {s : Int} (h : ¬ (0 ≤ s ∧ s ≤ 10)) : sgF s = 0 := if_neg h

theorem segNumberOk_any (s : Int) (w : World) :
    Calls Tryz.prog 44 #[.int .i64 s] w fun e w' => e = .returned (.bool (decide (0 ≤ s ∧ s ≤ 10))) ∧ w = w' := by
  by_cases h1 : 0 ≤ s
  · have g2 : decide (s < 11) = decide (0 ≤ s ∧ s ≤ 10) := decide_eq_decide.2 ⟨fun h => ⟨h1, by omega⟩, fun h => by omega⟩
    rw [← g2]
    clear g2
    go_enter Tryz.func44, Tryz.ntmps44
    go_wp2
    go_ret
    exact ⟨rfl, rfl⟩
  · rw [decide_eq_false (show ¬ (0 ≤ s ∧ s ≤ 10) by omega)]
    go_enter Tryz.func44, Tryz.ntmps44
    go_wp2
    go_ret
    exact ⟨rfl, rfl⟩

theorem implSegFirst_any (s : Int) (w : World) :
    Calls Tryz.prog 23 #[.int .i64 s] w fun e w' => e = .returned (.int .i64 (sgF s)) ∧ w = w' := by
  by_cases h : 0 ≤ s ∧ s ≤ 10
  · rw [sgF_yes h]
    have hd := decide_eq_true h
    go_enter Tryz.func23, Tryz.ntmps23
    go_wp2_with (go_at_call 44; refine (segNumberOk_any _ _).mono ?_; rintro e w1 ⟨rfl, rfl⟩; rw [hd])
    go_ret
    exact ⟨rfl, rfl⟩
  · rw [sgF_no h]
    have hd := decide_eq_false h
    go_enter Tryz.func23, Tryz.ntmps23
    go_wp2_with (go_at_call 44; refine (segNumberOk_any _ _).mono ?_; rintro e w1 ⟨rfl, rfl⟩; rw [hd])
    go_ret
    exact ⟨rfl, rfl⟩

theorem specSegFirst_any (s : Int) (w : World) :
    Calls Tryz.prog 63 #[.int .i64 s] w fun e w' => e = .returned (.int .i64 (sgF s)) ∧ w = w' := by
  by_cases h : 0 ≤ s ∧ s ≤ 10
  · rw [sgF_yes h]
    go_enter Tryz.func63, Tryz.ntmps63
    go_wp2_with (go_at_call 17; refine (in_yes _ _ _ _ (by omega) (by omega)).mono ?_; rintro e w5 ⟨rfl, rfl⟩)
    go_ret
    exact ⟨congrArg (fun z => Ending.returned (.int .i64 z)) (by omega), rfl⟩
  · rw [sgF_no h]
    go_enter Tryz.func63, Tryz.ntmps63
    go_wp2_with (go_at_call 17; refine (in_no _ _ _ _ h).mono ?_; rintro e w5 ⟨rfl, rfl⟩)
    go_ret
    exact ⟨rfl, rfl⟩



end Go.Proofs.YtgcnebepklelpaaGreatDoor

/- What spec.l01Long hands back. -/
namespace Go.Proofs.YtgcnebepklelpaaGreatDoor
open Go.RowKit

theorem Buf.stored {B : Nat} {w0 w : World} {g cap : Nat} {l : List UInt8} (h : Buf B w0 w (.slice (some ⟨g, 0, none⟩) l.length cap) l) (j : Nat) (t : UInt8) :
    Buf B w0 (w.setCell ⟨g, j, none⟩ (.int .u8 (t.toNat : Int))) (.slice (some ⟨g, 0, none⟩) l.length cap) (l.set j t) := by
  have hst := h.own.stored j (.int .u8 (t.toNat : Int))
  have e : bytesV (l.set j t) = (bytesV l).set j (.int .u8 (t.toNat : Int)) := by simp [bytesV, List.map_set]
  refine ⟨?_, h.bel.setCell (h.own.lt g rfl).1 _, by have := h.le; simpa using this⟩
  have hl : (l.set j t).length = l.length := by simp
  rw [hl, e]
  exact hst.1

theorem wpList_make_zeros {w : World} {ops : Array Oper} {rest : List Oper} {o : Oper} {a : Act} {Q : Exit → Act → World → Prop} (hg : o.guard = none) (l c : Operand) (hop : o.op = Op.makeSlice 134 l c)
    (kl kc : IntKind) (L C : Int) (n : Nat) (hl : a.eval l = .int kl L) (hc : a.eval c = .int kc C) (hL : L = (n : Int)) (hC : C = (n : Int)) (hn : n ≤ 281474976710656)
    (h : ∀ w' g, Buf w.heap.size w w' (.slice (some ⟨g, 0, none⟩) n n) (List.replicate n 0) → wpList Tryz.prog ops Q rest (a.put o.dst (.slice (some ⟨g, 0, none⟩) n n)) w') : wpList Tryz.prog ops Q (o :: rest) a w := by
  obtain ⟨i0, hi, hz0, hz1, hz2⟩ := info_parts Tryz.info_u8
  refine wpList_make_full w hg l c 134 hop w.heap.size 5 i0 (.int .u8 0) 1 Tryz.underlying134 hi hz0 hz1 kl kc L C n hl hc hL hC (by rw [hz2]; omega) (by unfold maxLen; omega) (Nat.le_refl _) ?_
  intro w' hown hgrow
  refine h w' w.heap.size ⟨?_, (Below.refl _ _).grown hgrow (Nat.le_refl _) (fun k hk => by cases hk), hgrow.size⟩
  have e : (madeCells (Value.int .u8 0).cells (n * 1)).toList = bytesV (List.replicate n 0) := by
    rw [Nat.mul_one]
    show (madeCells #[Value.int .u8 0] n).toList = _
    rw [toList_madeCells_one]
    simp [bytesV]
  rw [e] at hown
  simpa using hown

def longTo (n k : Nat) (x : UInt8) : List UInt8 := List.replicate k x ++ List.replicate (n - k) 0
theorem longTo_length {n k : Nat} {x : UInt8} (h : k ≤ n) : (longTo n k x).length = n := by simp [longTo]; omega
theorem longTo_set {n k : Nat} {x : UInt8} (h : k < n) : (longTo n k x).set k x = longTo n (k + 1) x := by
  unfold longTo
  rw [List.set_append_right _ _ (by simp)]
  simp only [List.length_replicate, Nat.sub_self]
  rw [show n - k = (n - (k + 1)) + 1 by omega, List.replicate_succ, List.set_cons_zero, List.replicate_succ', List.append_assoc]
  rfl
theorem longTo_all (n : Nat) (x : UInt8) : longTo n n x = List.replicate n x := by simp [longTo]

set_option maxRecDepth 100000 in
set_option maxHeartbeats 1000000 in
theorem long_any (n : Nat) (x : UInt8) (w : World) (hn : n ≤ 1048576) :
    Calls Tryz.prog 59 #[.int .i64 (n : Int), .int .u8 (x.toNat : Int)] w fun e w' => e = .returned (.string ⟨(List.replicate n x).toArray⟩) ∧ Below w.heap.size w w' := by
  go_enter Tryz.func59, Tryz.ntmps59
  go_wp2_with (at_make; refine wpList_make_zeros rfl _ _ rfl .i64 .i64 _ _ n rfl rfl rfl rfl (by omega) ?_; intro w1 g hb1)
  go_loopw [6] (fun iv wr => ∃ k : Nat, k ≤ n ∧ iv = .int .i64 (k : Int) ∧ Buf w.heap.size w wr (.slice (some ⟨g, 0, none⟩) n n) (longTo n k x)) (fun iv _ => n - (intOf iv).toNat)
  case atStart => exact ⟨0, by omega, rfl, by simpa [longTo] using hb1⟩
  case round =>
    obtain ⟨k, hk, rfl, hb⟩ := hrel
    by_cases hlt : k < n
    · have hml := longTo_length (x := x) hk
      have hms : Hid ((longTo n k x).set k x = longTo n (k + 1) x) := longTo_set hlt
      have hbm : Buf w.heap.size w wr (.slice (some ⟨g, 0, none⟩) (longTo n k x).length n) (longTo n k x) := by rw [hml]; exact hb
      have hc1 : wr.cell? ⟨g, k, none⟩ = some (.int .u8 (((longTo n k x)[k]'(by omega)).toNat : Int)) := by
        rw [hbm.own.cellAt k (by omega)]
        simp only [bytesV, List.getElem?_map]
        rw [List.getElem?_eq_getElem (by omega)]
        rfl
      have hf1 : wr.frozen? ⟨g, k, none⟩ = false := hbm.own.frozenAt k
      have hst := hbm.stored k x
      rw [hms.out, hml] at hst
      generalize (longTo n k x)[k]'(by omega) = t at hc1
      clear hml hbm
      go_wp2
      go_roundw
      case rel => exact ⟨k + 1, by omega, by go_num, hst⟩
      case measure => simp [intOf]; omega
    · have hfin : Hid (k = n) := by show k = n; omega
      have hcv := hb.toString
      go_wp2
      go_ret
      exact ⟨by rw [hfin.out, longTo_all]; rfl, hb.bel⟩

end Go.Proofs.YtgcnebepklelpaaGreatDoor

/- Segments: what the program's SegWrite hands back, within a disk. -/
namespace Go.Proofs.YtgcnebepklelpaaGreatDoor
open Go.RowKit

theorem take_text (t : ByteArray) (m : Nat) : (⟨(t.data.toList.take m).toArray⟩ : ByteArray).size = min m t.size := by
  show (t.data.toList.take m).toArray.size = _
  rw [List.size_toArray, List.length_take, Array.length_toList]; rfl
theorem take_all {t : ByteArray} {m : Nat} (h : t.size ≤ m) : (⟨(t.data.toList.take m).toArray⟩ : ByteArray) = t := by
  rw [List.take_of_length_le (by rw [Array.length_toList]; exact h)]

theorem Buf.box {B : Nat} {w0 w : World} {g n : Nat} {l : List UInt8} (h : Buf B w0 w (.slice (some ⟨g, 0, none⟩) n n) l) (hl : l.length = n) : Box w g (bytesV l).toArray 5 := by
  rcases h.own.2 with ⟨e, _⟩ | ⟨g', cap, cur, e, _, hh, hnc, hcp, hcs, htake⟩
  · cases e
  · simp only [Value.slice.injEq, Option.some.injEq, Addr.mk.injEq, and_true] at e
    obtain ⟨rfl, _, rfl⟩ := e
    have : cur = (bytesV l).toArray := by
      have h1 : cur.toList = bytesV l := by
        rw [← htake, List.take_of_length_le]
        rw [Array.length_toList, hcs, hl]
        exact Nat.le_refl _
      rw [← h1]
    rw [this] at hh
    exact hh

set_option maxRecDepth 100000 in
set_option maxHeartbeats 1000000 in
theorem cut_any (A : Nat) (t : ByteArray) (w : World) (hA : A ≤ 256) (_htz : t.size ≤ 1099511627776) :
    Calls Tryz.prog 110 #[.int .i64 (A : Int), .string t] w fun e w' => e = .returned (.string ⟨(t.data.toList.take (256 - A)).toArray⟩) ∧ Below w.heap.size w w' := by
  have hA0 : (0 : Int) ≤ (A : Int) := by omega
  have hA1 : (A : Int) ≤ 256 := by omega
  by_cases h6 : A = 256
  · subst h6
    rw [Nat.sub_self, List.take_zero]
    go_enter Tryz.func110, Tryz.ntmps110
    go_wp2_with (at_make; refine wpList_make_zeros rfl _ _ rfl .i64 .i64 _ _ 256 rfl rfl rfl rfl (by omega) ?_; intro w1 g hb1)
    have bx := hb1.box (by simp)
    refine upon_copy_text 134 9 3 5 g 0 0 0 t (List.replicate 256 0) 5 Tryz.underlying134 (by kernel_rfl) bx (by simp) ?_
    intro w2 x2 g2
    have hrun := run_convert_bytes_back (P := Tryz.prog) w2 134 9 5 ⟨g, 0, none⟩ 0 [] Tryz.underlying134 Tryz.underlying5 Tryz.underlying9 (fun j hj => by simp at hj)
    rw [List.length_nil] at hrun
    rw [show Nat.min t.size 0 = 0 from Nat.min_zero _]
    have hgB : w.heap.size ≤ g := (hb1.own.lt g rfl).1
    have bF := hb1.bel.grown g2 hb1.le (fun k hk => by have := Option.some.inj hk; omega)
    clear x2 g2 bx hb1
    go_wp2
    go_ret
    exact ⟨rfl, bF⟩
  · have h6' : ¬ 256 = A := fun e => h6 e.symm
    go_enter Tryz.func110, Tryz.ntmps110
    go_wp2_with (at_make; refine wpList_make_zeros rfl _ _ rfl .i64 .i64 _ _ 256 rfl rfl rfl rfl (by omega) ?_; intro w1 g hb1)
    have bx := hb1.box (by simp)
    have hgB : w.heap.size ≤ g := (hb1.own.lt g rfl).1
    refine upon_copy_text 134 9 3 5 g A (256 - A) (256 - A) t (List.replicate 256 0) 5 Tryz.underlying134 (by kernel_rfl) bx (by simp; omega) ?_
    intro w2 x2 g2
    obtain ⟨l, hl⟩ : ∃ l, t.data.toList.take (256 - A) = l := ⟨_, rfl⟩
    have hll : l.length = Nat.min t.size (256 - A) := by
      rw [← hl, List.length_take, Array.length_toList]
      exact Nat.min_comm _ _
    rw [hl] at x2
    have HL := Lib.hid hl
    clear hl
    have hlA : l.length ≤ 256 - A := by rw [hll]; exact Nat.min_le_right _ _
    have hrun := run_convert_bytes_back (P := Tryz.prog) w2 134 9 5 ⟨g, A, none⟩ (256 - A) l Tryz.underlying134 Tryz.underlying5 Tryz.underlying9 (fun j hj => by
      rw [Addr.add_lit]
      refine x2.cell (A + j) _ ?_
      have hs := splice_get (l := List.replicate 256 (0 : UInt8)) (m := l) (o := A) (by simp; omega) (A + j)
      rw [if_pos ⟨by omega, by omega⟩, show A + j - A = j by omega, List.getElem?_eq_getElem hj] at hs
      rw [List.getElem?_toArray, bytesV, List.getElem?_map, hs]; rfl)
    rw [← hll]
    have bF := hb1.bel.grown g2 hb1.le (fun k hk => by have := Option.some.inj hk; omega)
    have hl0 : (0 : Int) ≤ (l.length : Int) := by omega
    have hl1 : (l.length : Int) ≤ ((256 - A : Nat) : Int) := by omega
    have hl2 : ¬ 256 - A = 0 := by omega
    clear x2 g2 bx hb1 hll
    go_wp2
    go_ret
    exact ⟨by rw [HL.out]; rfl, bF⟩

set_option maxRecDepth 100000 in
set_option maxHeartbeats 2000000 in
theorem implSegWrite_in (d : Dk) (v : Value) (s A : Nat) (t : ByteArray) (B T : Nat) (w : World) (h : DOwn B T w v d) (hsm : d.small) (hts : ∀ s ∈ d.sec, s.size ≤ 1099511627776) (htu : ∀ x ∈ d.cache, x.text.size ≤ 1099511627776) (hcl : d.cache.length < 1073741824) (hs : s ≤ 10) (hse : 8 + 8 * s < d.sec.length) (hA : A ≤ 256) (hfit : t.size ≤ 256 - A) :
    Calls Tryz.prog 91 #[v, .int .i64 (s : Int), .int .i64 (A : Int), .string t] w fun e w' => DiskR ((wbL d (8 + 8 * s + A / 32) (A % 32) t.data.toList).getD d) (wbL d (8 + 8 * s + A / 32) (A % 32) t.data.toList).isSome w e w' := by
  obtain ⟨aa, ab, ca, cb, rfl⟩ := h.form
  obtain ⟨hx0, hx1, b0, hsz⟩ := two_boxes w #[.slice aa d.sec.length ca, .slice ab d.cache.length cb] #[.slice none 0 0, .slice none 0 0] 25 25
  have h' := h.later b0
  have hin : 0 ≤ (s : Int) ∧ (s : Int) ≤ 10 := by omega
  have hd := decide_eq_true hin
  have hsf : sgF (s : Int) = ((8 + 8 * s : Nat) : Int) := by rw [sgF_yes hin]; omega
  have hcut := take_all hfit
  have g1 : ¬ (A : Int) < 0 := by omega
  have g2 : ¬ (256 : Int) < (A : Int) := by omega
  obtain ⟨R, hR⟩ : ∃ R, wbL d (8 + 8 * s + A / 32) (A % 32) t.data.toList = R := ⟨_, rfl⟩
  rw [hR]
  obtain ⟨d2, hd2⟩ : ∃ d2, R.getD d = d2 := ⟨_, rfl⟩
  obtain ⟨f2, hf2⟩ : ∃ f2, R.isSome = f2 := ⟨_, rfl⟩
  rw [hd2, hf2]
  have HD2 : Hid (R.getD d = d2 ∧ R.isSome = f2) := ⟨hd2, hf2⟩
  clear hd2 hf2
  have HR := Lib.hid hR
  have HCUT := Lib.hid hcut
  have HSF := Lib.hid hsf
  have HDD := Lib.hid hd
  clear hR hcut hsf hd
  go_enter Tryz.func91, Tryz.ntmps91
  go_upto_region 6 with (first
    | (go_at_call 44; refine (segNumberOk_any _ _).mono ?_; rintro e w5 ⟨rfl, rfl⟩; rw [HDD.out])
    | (go_at_call 110; refine (cut_any A t _ hA (by omega)).mono ?_; rintro e w5 ⟨rfl, k5⟩; rw [HCUT.out]))
  generalize ((w.alloc (.cells #[.slice aa d.sec.length ca, .slice ab d.cache.length cb] 25)).alloc (.cells #[.slice none 0 0, .slice none 0 0] 25)) = W at hx0 hx1 b0 hsz h' k5
  have b5 := b0.trans (k5.mono b0.size)
  have bD : Below w5.heap.size w5 w5.drew := (Below.refl _ _).drew
  have m0 := ((hx0.later k5).later bD).cell 0 (.slice aa d.sec.length ca) rfl
  have m1 := ((hx0.later k5).later bD).cell 1 (.slice ab d.cache.length cb) rfl
  have HD := Lib.hid ((h'.later k5).later bD)
  have HX : Hid (∀ x, Below w5.drew.heap.size w5.drew x → Box x (w.heap.size + 1) #[.slice none 0 0, .slice none 0 0] 25 ∧ Below w.heap.size w x) := by
    intro x hb
    have hb2 : Below w5.heap.size w5 x := bD.trans hb
    exact ⟨(hx1.later k5).later hb2, b5.trans (hb2.mono b5.size)⟩
  have hzW : w.heap.size ≤ w5.drew.heap.size := b5.size
  clear hx0 hx1 h' bD k5 b0 b5
  go_region_law (first
    | (go_simp; go_at_call 23; refine (implSegFirst_any _ _).mono ?_; rintro e w6 ⟨rfl, rfl⟩; rw [HSF.out]; dsimp only)
    | (go_simp; go_at_call 73; refine (implWriteBytes_in d _ (8 + 8 * s) A t B T _ HD.out hsm hts htu hcl hse (by omega) (by omega)).mono ?_; intro e w6 hres; rw [HR.out, HD2.out.1, HD2.out.2] at hres; obtain ⟨v2, rfl, o6, k6⟩ := hres; obtain ⟨u1, u2, p1, p2, rfl⟩ := o6.form; obtain ⟨xX, bX⟩ := HX.out _ k6; have x0 := xX.cell 0 (.slice none 0 0) rfl; have x1 := xX.cell 1 (.slice none 0 0) rfl; have f0 := xX.loose 0; have f1 := xX.loose 1; dsimp only))
  all_goals
    have rX := (xX.set 0 (.slice u1 d2.sec.length p1)).set 1 (.slice u2 d2.cache.length p2)
    have q0 := rX.cell 0 (.slice u1 d2.sec.length p1) rfl
    have q1 := rX.cell 1 (.slice u2 d2.cache.length p2) rfl
    have HRR : Hid (DiskR d2 f2 w (.returned (.tuple #[.agg #[.slice u1 d2.sec.length p1, .slice u2 d2.cache.length p2], .bool f2])) ((w6.setCell ⟨w.heap.size + 1, 0, none⟩ (.slice u1 d2.sec.length p1)).setCell ⟨w.heap.size + 1, 1, none⟩ (.slice u2 d2.cache.length p2))) := by
      refine ⟨_, rfl, ?_, (bX.setCell (p := ⟨w.heap.size + 1, 0, none⟩) (by simp) _).setCell (p := ⟨w.heap.size + 1, 1, none⟩) (by simp) _⟩
      have := ((o6.base hzW).boxStore xX 0 (.slice u1 d2.sec.length p1)).boxStore (xX.set 0 (.slice u1 d2.sec.length p1)) 1 (.slice u2 d2.cache.length p2)
      simpa using this
    clear rX xX o6
    go_wp2
    refine bodyPost_ret (v := .tuple #[.agg #[.slice u1 d2.sec.length p1, .slice u2 d2.cache.length p2], .bool f2]) (by simp [results, Tryz.results91, go_sem, q0, q1]) rfl ?_
    exact HRR.out

set_option maxRecDepth 100000 in
set_option maxHeartbeats 2000000 in
theorem implSegWrite_far (d : Dk) (v : Value) (s A : Nat) (t : ByteArray) (B T : Nat) (w : World) (h : DOwn B T w v d) (hsm : d.small) (hts : ∀ s ∈ d.sec, s.size ≤ 1099511627776) (htu : ∀ x ∈ d.cache, x.text.size ≤ 1099511627776) (hs : s ≤ 10) (hA : A ≤ 256) (hfar : 256 - A < t.size) (htz : t.size ≤ 1099511627776) :
    Calls Tryz.prog 91 #[v, .int .i64 (s : Int), .int .i64 (A : Int), .string t] w fun e w' => DiskR d false w e w' := by
  obtain ⟨aa, ab, ca, cb, rfl⟩ := h.form
  obtain ⟨hx0, hx1, b0, hsz⟩ := two_boxes w #[.slice aa d.sec.length ca, .slice ab d.cache.length cb] #[.slice none 0 0, .slice none 0 0] 25 25
  have h' := h.later b0
  have hin : 0 ≤ (s : Int) ∧ (s : Int) ≤ 10 := by omega
  have HDD := Lib.hid (decide_eq_true hin)
  have g1 : ¬ (A : Int) < 0 := by omega
  have g2 : ¬ (256 : Int) < (A : Int) := by omega
  obtain ⟨t2, ht2⟩ : ∃ t2, (⟨(t.data.toList.take (256 - A)).toArray⟩ : ByteArray) = t2 := ⟨_, rfl⟩
  have hz2 : (t2.size : Int) < (t.size : Int) := by rw [← ht2, take_text]; omega
  have HCUT := Lib.hid ht2
  clear ht2
  go_enter Tryz.func91, Tryz.ntmps91
  go_upto_region 5 with (first
    | (go_at_call 44; refine (segNumberOk_any _ _).mono ?_; rintro e w5 ⟨rfl, rfl⟩; rw [HDD.out])
    | (go_at_call 110; refine (cut_any A t _ hA (by omega)).mono ?_; rintro e w5 ⟨rfl, k5⟩; rw [HCUT.out]))
  generalize ((w.alloc (.cells #[.slice aa d.sec.length ca, .slice ab d.cache.length cb] 25)).alloc (.cells #[.slice none 0 0, .slice none 0 0] 25)) = W at hx0 hx1 b0 hsz h' k5
  have b5 := b0.trans (k5.mono b0.size)
  have m0 := (hx0.later k5).cell 0 (.slice aa d.sec.length ca) rfl
  have m1 := (hx0.later k5).cell 1 (.slice ab d.cache.length cb) rfl
  have x5 := hx1.later k5
  have h5 := h'.later k5
  clear hx0 hx1 h' k5
  go_wp2_with fail
  refine (copyDisk_any d _ B T _ h5 hsm hts htu).mono ?_
  rintro e wX ⟨vX, rfl, oX, kX⟩
  obtain ⟨p1, p2, r1, r2, rfl⟩ := oX.form
  have xX := x5.later kX
  have bX := b5.trans (kX.mono b5.size)
  have x0 := xX.cell 0 (.slice none 0 0) rfl
  have x1 := xX.cell 1 (.slice none 0 0) rfl
  have f0 := xX.loose 0
  have f1 := xX.loose 1
  have rX := (xX.set 0 (.slice p1 d.sec.length r1)).set 1 (.slice p2 d.cache.length r2)
  have HR : Hid (DiskR d false w (.returned (.tuple #[.agg #[.slice p1 d.sec.length r1, .slice p2 d.cache.length r2], .bool false])) ((wX.setCell ⟨w.heap.size + 1, 0, none⟩ (.slice p1 d.sec.length r1)).setCell ⟨w.heap.size + 1, 1, none⟩ (.slice p2 d.cache.length r2))) := by
    refine ⟨_, rfl, ?_, (bX.setCell (p := ⟨w.heap.size + 1, 0, none⟩) (by simp) _).setCell (p := ⟨w.heap.size + 1, 1, none⟩) (by simp) _⟩
    have := ((oX.base b5.size).boxStore xX 0 (.slice p1 d.sec.length r1)).boxStore (xX.set 0 (.slice p1 d.sec.length r1)) 1 (.slice p2 d.cache.length r2)
    simpa using this
  have q0 := rX.cell 0 (.slice p1 d.sec.length r1) rfl
  have q1 := rX.cell 1 (.slice p2 d.cache.length r2) rfl
  clear rX oX kX m0 m1 xX x5 h5
  go_wp2
  refine bodyPost_ret (v := .tuple #[.agg #[.slice p1 d.sec.length r1, .slice p2 d.cache.length r2], .bool false]) (by simp [results, Tryz.results91, go_sem, q0, q1]) rfl ?_
  exact HR.out

end Go.Proofs.YtgcnebepklelpaaGreatDoor

/- Segments: what the model's SegWrite hands back of a right disk: a right disk of as many sectors. -/
namespace Go.Proofs.YtgcnebepklelpaaGreatDoor
open Go.RowKit

end Go.Proofs.YtgcnebepklelpaaGreatDoor

/- What is written in a segment, exactly: SegWrite of both on right disks. -/
namespace Go.Proofs.YtgcnebepklelpaaGreatDoor
open Go.RowKit

def sgW (d : Dk) (s A : Nat) (t : ByteArray) : Option Dk := if A + t.size ≤ 256 then wbL d (8 + 8 * s + A / 32) (A % 32) t.data.toList else none
theorem sgW_in {d : Dk} {s A : Nat} {t : ByteArray} (h : A + t.size ≤ 256) : sgW d s A t = wbL d (8 + 8 * s + A / 32) (A % 32) t.data.toList := if_pos h
theorem sgW_far {d : Dk} {s A : Nat} {t : ByteArray} (h : ¬ A + t.size ≤ 256) : sgW d s A t = none := if_neg h

set_option maxRecDepth 100000 in
set_option maxHeartbeats 2000000 in
theorem specSegWrite_sg (d : Dk) (v : Value) (s A : Nat) (t : ByteArray) (B T : Nat) (w : World) (h : DOwn B T w v d) (hok : d.ok) (hs : s ≤ 10) (hse : 8 + 8 * s < d.sec.length) (hA : A ≤ 256) (htz : t.size ≤ 1000000) :
    Calls Tryz.prog 37 #[v, .int .i64 (s : Int), .int .i64 (A : Int), .string t] w fun e w' => ∃ (d' : Dk) (f : Bool), d'.ok ∧ d'.sec.length = d.sec.length ∧ sgW d s A t = (if f = true then some d' else none) ∧ (f = false → d' = d) ∧ DiskR d' f w e w' := by
  obtain ⟨aa, ab, ca, cb, rfl⟩ := h.form
  obtain ⟨hsm, hts, htu⟩ := Dk.ok_small hok
  obtain ⟨hx0, hx1, b0, hsz⟩ := two_boxes w #[.slice aa d.sec.length ca, .slice ab d.cache.length cb] #[.slice none 0 0, .slice none 0 0] 25 25
  have h' := h.later b0
  have c0 := hx0.cell 0 (.slice aa d.sec.length ca) rfl
  have c1 := hx0.cell 1 (.slice ab d.cache.length cb) rfl
  by_cases hfit : (256 : Int) - (A : Int) < (t.size : Int)
  · have HNO : Hid (sgW d s A t = (if false = true then some d else none)) := by show _ = _; rw [sgW_far (by omega)]; rfl
    go_enter Tryz.func37, Tryz.ntmps37
    go_wp2_with (first | (go_at_call 17; refine (in_yes _ _ _ _ (by omega) (by omega)).mono ?_; rintro e w5 ⟨rfl, rfl⟩))
    generalize ((w.alloc (.cells #[.slice aa d.sec.length ca, .slice ab d.cache.length cb] 25)).alloc (.cells #[.slice none 0 0, .slice none 0 0] 25)) = W at hx0 hx1 b0 hsz h' c0 c1 ⊢
    refine (specCopy_any d _ B T _ h' hsm).mono ?_
    rintro e wX ⟨vX, rfl, oX, kX⟩
    obtain ⟨p1, p2, r1, r2, rfl⟩ := oX.form
    have xX := hx1.later kX
    have bX := b0.trans (kX.mono b0.size)
    have x0 := xX.cell 0 (.slice none 0 0) rfl
    have x1 := xX.cell 1 (.slice none 0 0) rfl
    have f0 := xX.loose 0
    have f1 := xX.loose 1
    have rX := (xX.set 0 (.slice p1 d.sec.length r1)).set 1 (.slice p2 d.cache.length r2)
    have HR : Hid (DiskR d false w (.returned (.tuple #[.agg #[.slice p1 d.sec.length r1, .slice p2 d.cache.length r2], .bool false])) ((wX.setCell ⟨w.heap.size + 1, 0, none⟩ (.slice p1 d.sec.length r1)).setCell ⟨w.heap.size + 1, 1, none⟩ (.slice p2 d.cache.length r2))) := by
      refine ⟨_, rfl, ?_, (bX.setCell (p := ⟨w.heap.size + 1, 0, none⟩) (by simp) _).setCell (p := ⟨w.heap.size + 1, 1, none⟩) (by simp) _⟩
      have := ((oX.base b0.size).boxStore xX 0 (.slice p1 d.sec.length r1)).boxStore (xX.set 0 (.slice p1 d.sec.length r1)) 1 (.slice p2 d.cache.length r2)
      simpa using this
    have q0 := rX.cell 0 (.slice p1 d.sec.length r1) rfl
    have q1 := rX.cell 1 (.slice p2 d.cache.length r2) rfl
    clear rX oX kX c0 c1 xX
    go_wp2
    refine bodyPost_ret (v := .tuple #[.agg #[.slice p1 d.sec.length r1, .slice p2 d.cache.length r2], .bool false]) (by simp [results, Tryz.results37, go_sem, q0, q1]) rfl ?_
    exact ⟨d, false, hok, rfl, HNO.out, fun _ => rfl, HR.out⟩
  · have HYE : Hid (sgW d s A t = wbL d (8 + 8 * s + A / 32) (A % 32) t.data.toList) := sgW_in (by omega)
    have hfit2 : ¬ (256 : Int) - (A : Int) < (t.size : Int) := hfit
    have hsf : sgF (s : Int) = ((8 + 8 * s : Nat) : Int) := by rw [sgF_yes ⟨by omega, by omega⟩]; omega
    go_enter Tryz.func37, Tryz.ntmps37
    go_upto_region 3 with (first | (go_at_call 17; refine (in_yes _ _ _ _ (by omega) (by omega)).mono ?_; rintro e w5 ⟨rfl, rfl⟩))
    generalize ((w.alloc (.cells #[.slice aa d.sec.length ca, .slice ab d.cache.length cb] 25)).alloc (.cells #[.slice none 0 0, .slice none 0 0] 25)) = W at hx0 hx1 b0 hsz h' c0 c1 ⊢
    have bD : Below W.heap.size W W.drew := (Below.refl _ _).drew
    have m0 := (hx0.later bD).cell 0 (.slice aa d.sec.length ca) rfl
    have m1 := (hx0.later bD).cell 1 (.slice ab d.cache.length cb) rfl
    have HD := Lib.hid (h'.later bD)
    have HX : Hid (∀ x, Below W.drew.heap.size W.drew x → Box x (w.heap.size + 1) #[.slice none 0 0, .slice none 0 0] 25 ∧ Below w.heap.size w x) := by
      intro x hb
      have hb2 : Below W.heap.size W x := bD.trans hb
      exact ⟨hx1.later hb2, b0.trans (hb2.mono b0.size)⟩
    have hzW : w.heap.size ≤ W.drew.heap.size := b0.size
    clear hx0 hx1 h' c0 c1 bD
    go_region_law (first
      | (go_simp; go_at_call 63; refine (specSegFirst_any _ _).mono ?_; rintro e w5 ⟨rfl, rfl⟩; rw [hsf]; dsimp only)
      | (go_simp; go_at_call 42; refine (specWriteBytes_wb d _ (8 + 8 * s) A t B T _ HD.out hok hse (by omega) htz).mono ?_; rintro e w6 ⟨d2, f2, hok2, hl2, hm2, hw2, hf2, v2, rfl, o6, k6⟩; have HL2 := Lib.hid hl2; have HW2 := Lib.hid hw2; have HF2 := Lib.hid hf2; clear hl2 hm2 hw2 hf2; obtain ⟨u1, u2, p1, p2, rfl⟩ := o6.form; obtain ⟨xX, bX⟩ := HX.out _ k6; have x0 := xX.cell 0 (.slice none 0 0) rfl; have x1 := xX.cell 1 (.slice none 0 0) rfl; have f0 := xX.loose 0; have f1 := xX.loose 1; dsimp only))
    all_goals
      have rX := (xX.set 0 (.slice u1 d2.sec.length p1)).set 1 (.slice u2 d2.cache.length p2)
      have q0 := rX.cell 0 (.slice u1 d2.sec.length p1) rfl
      have q1 := rX.cell 1 (.slice u2 d2.cache.length p2) rfl
      have HR : Hid (DiskR d2 f2 w (.returned (.tuple #[.agg #[.slice u1 d2.sec.length p1, .slice u2 d2.cache.length p2], .bool f2])) ((w6.setCell ⟨w.heap.size + 1, 0, none⟩ (.slice u1 d2.sec.length p1)).setCell ⟨w.heap.size + 1, 1, none⟩ (.slice u2 d2.cache.length p2))) := by
        refine ⟨_, rfl, ?_, (bX.setCell (p := ⟨w.heap.size + 1, 0, none⟩) (by simp) _).setCell (p := ⟨w.heap.size + 1, 1, none⟩) (by simp) _⟩
        have := ((o6.base hzW).boxStore xX 0 (.slice u1 d2.sec.length p1)).boxStore (xX.set 0 (.slice u1 d2.sec.length p1)) 1 (.slice u2 d2.cache.length p2)
        simpa using this
      clear rX xX o6
      go_wp2
      refine bodyPost_ret (v := .tuple #[.agg #[.slice u1 d2.sec.length p1, .slice u2 d2.cache.length p2], .bool f2]) (by simp [results, Tryz.results37, go_sem, q0, q1]) rfl ?_
      exact ⟨d2, f2, hok2, HL2.out, HYE.out.trans HW2.out, HF2.out, HR.out⟩

theorem implSegWrite_sg (d : Dk) (v : Value) (s A : Nat) (t : ByteArray) (B T : Nat) (w : World) (h : DOwn B T w v d) (hsm : d.small) (hts : ∀ s ∈ d.sec, s.size ≤ 1099511627776) (htu : ∀ x ∈ d.cache, x.text.size ≤ 1099511627776) (hcl : d.cache.length < 1073741824) (hs : s ≤ 10) (hse : 8 + 8 * s < d.sec.length) (hA : A ≤ 256) (htz : t.size ≤ 1000000) :
    Calls Tryz.prog 91 #[v, .int .i64 (s : Int), .int .i64 (A : Int), .string t] w fun e w' => DiskR ((sgW d s A t).getD d) (sgW d s A t).isSome w e w' := by
  by_cases hfit : A + t.size ≤ 256
  · rw [sgW_in hfit]
    exact implSegWrite_in d v s A t B T w h hsm hts htu hcl hs hse hA (by omega)
  · rw [sgW_far hfit]
    exact implSegWrite_far d v s A t B T w h hsm hts htu hs hA (by omega) (by omega)

end Go.Proofs.YtgcnebepklelpaaGreatDoor

/- What is flushed is right. -/
namespace Go.Proofs.YtgcnebepklelpaaGreatDoor
open Go.RowKit

theorem flush_32 (c : List Wr) : ∀ sec : List ByteArray, (∀ s ∈ sec, s.size = 32) → (∀ x ∈ c, x.text.size = 32) → ∀ s ∈ flush sec c, s.size = 32 := by
  induction c with
  | nil => intro sec h _; exact h
  | cons x c ih =>
    intro sec h hc
    have e : flush sec (x :: c) = flush (sec.set x.at_.toNat x.text) c := rfl
    rw [e]
    refine ih _ (fun s hs => ?_) (fun y hy => hc y (by simp [hy]))
    rcases List.mem_or_eq_of_mem_set hs with h1 | h1
    · exact h s h1
    · rw [h1]; exact hc x (by simp)
theorem flD_ok {d : Dk} (h : d.ok) : (flD d).ok ∧ (flD d).sec.length = d.sec.length ∧ (flD d).cache = [] := by
  unfold flD
  rw [if_pos h]
  obtain ⟨h1, h2, h3, h4, h5⟩ := h
  have hl := flush_length d.sec d.cache
  exact ⟨⟨by show 1 ≤ (flush d.sec d.cache).length; omega, by show (flush d.sec d.cache).length ≤ 100; omega, by simp, flush_32 _ _ h4 (fun x hx => (h5 x hx).2.2), by simp⟩, hl, rfl⟩

end Go.Proofs.YtgcnebepklelpaaGreatDoor

/- Rows of sectors: how they lie in memory, and the texts of them. -/
namespace Go.Proofs.YtgcnebepklelpaaGreatDoor
open Go.RowKit

def secE : Enc Sec where
  ty := 110
  sty := 82
  sz := 32
  bytes := 32
  zero := .agg z32
  f := fun s => bytesV s.1
  len := fun s => by rw [bytesV_length, s.2]
  pos := by decide
  one := fun s => bytesV_one _
  und := Tryz.underlying82
  info := by kernel_rfl
  zc := rfl
  z0 := ⟨List.replicate 32 0, rfl⟩
  zf := rfl

set_option maxRecDepth 100000 in
theorem wpList_build_sec {w : World} {ops : Array Oper} {rest : List Oper} {o : Oper} {a : Act} {Q : Exit → Act → World → Prop} (hgd : o.guard = none) (x : Operand) (ho : o.op = .buildSlice 82 1 #[(0, x)]) (s : Sec) (hx : a.eval x = s.v)
    (h : wpList Tryz.prog ops Q rest (a.put o.dst (.slice (some ⟨w.heap.size, 0, none⟩) 1 1)) (w.alloc (.cells (bytesV s.1).toArray 110))) : wpList Tryz.prog ops Q (o :: rest) a w := by
  obtain ⟨i0, hi, hz0, hz1, hz2⟩ := info_parts secE.info
  have hz1' : i0.size = 32 := hz1
  refine wpList_buildSlice hgd _ _ 1 _ ho (bytesV s.1).toArray i0 secE.zero secE.und hi hz0 (by rw [hz1']; decide) (by rw [hz1']; decide) ?_ h
  have := Great.fill_whole (s := 32) (by decide) [s.v] ((Array.range (1 * 32)).map (secE.zero.cells[· % secE.zero.cells.size]!)) (fun v hv => by simp at hv; subst hv; exact s.size) (by simp)
  rw [hz1']
  have e1 : (#[(0, x)].map fun (i, y) => (i, a.eval y)).toList = ([s.v].zipIdx 0).map fun x => (x.2, x.1) := by simp [hx]
  rw [e1, this]
  congr 1
  simp [Sec.v, Value.cells]

def Sec.str (s : Sec) : ByteArray := ⟨s.1.toArray⟩
theorem wpList_make_room {α : Type} {w : World} {ops : Array Oper} {rest : List Oper} {o : Oper} {a : Act} {Q : Exit → Act → World → Prop} (hg : o.guard = none) (x c : Operand) (E : Enc α) (hop : o.op = Op.makeSlice E.sty x c)
    (kl kc : IntKind) (C : Int) (n : Nat) (hl : a.eval x = .int kl 0) (hc : a.eval c = .int kc C) (hC : C = (n : Int)) (hn : (E.bytes + 1) * n ≤ 281474976710656)
    (h : ∀ w', RBuf E w.heap.size w w' (.slice (some ⟨w.heap.size, 0, none⟩) 0 n) [] → wpList Tryz.prog ops Q rest (a.put o.dst (.slice (some ⟨w.heap.size, 0, none⟩) 0 n)) w') : wpList Tryz.prog ops Q (o :: rest) a w := by
  obtain ⟨i0, hi, hz0, hz1, hz2⟩ := info_parts E.info
  have e0 : (E.bytes + 1) * n = E.bytes * n + n := Nat.succ_mul _ _
  refine wpList_make_own w hg x c E.sty hop w.heap.size E.ty i0 E.zero E.sz E.und hi hz0 hz1 kl kc C n hl hc hC (by rw [hz2]; omega) (by unfold maxLen; omega) (Nat.le_refl _) ?_
  intro w' hown hgrow
  exact h w' ⟨hown, (Below.refl _ _).grown hgrow (Nat.le_refl _) (fun k hk => by cases hk), hgrow.size⟩

theorem RBuf.range {B : Nat} {w0 w : World} {g cap : Nat} {l : List Sec} (h : RBuf secE B w0 w (.slice (some ⟨g, 0, none⟩) l.length cap) l) (i : Nat) (s : Sec) (hi : l[i]? = some s) : w.rangeAt g (i * 32) (bytesV s.1) :=
  fun j v hv => h.cell rfl i s hi j v hv

set_option maxRecDepth 100000 in
set_option maxHeartbeats 2000000 in
theorem sectorTexts_any (l : List Sec) (v : Value) (B : Nat) (w : World) (h : RBuf secE B w w v l) (hl : l.length ≤ 1048576) :
    Calls Tryz.prog 43 #[v] w fun e w' => ∃ v', e = .returned v' ∧ RBuf strE w.heap.size w w' v' (l.map Sec.str) := by
  obtain ⟨av, cv, rfl⟩ := h.form
  have H := Lib.hid h
  clear h
  go_enter Tryz.func43, Tryz.ntmps43
  go_wp2_with (at_make; refine wpList_make_room rfl _ _ strE rfl .i64 .i64 _ l.length rfl rfl rfl (by show 17 * l.length ≤ _; omega) ?_; intro w1 hr1)
  have HR1 := Lib.hid hr1
  clear hr1
  go_loopw [3, 11] (fun tv iv wr => ∃ i : Nat, i ≤ l.length ∧ iv = .int .i64 (i : Int) ∧ RBuf strE w.heap.size w wr tv ((l.take i).map Sec.str)) (fun _ iv _ => l.length - (intOf iv).toNat)
  case atStart => exact ⟨0, by omega, rfl, HR1.out⟩
  case round =>
    obtain ⟨i, hi, rfl, hr⟩ := hrel
    obtain ⟨pt, ct, rfl⟩ := hr.form
    by_cases hlt : i < l.length
    · have hlen : ((l.take i).map Sec.str).length = i := by simp; omega
      rw [hlen] at hr ⊢
      have hat := List.getElem?_eq_getElem hlt
      have hs := Lib.hid (H.out.later hr.bel)
      obtain ⟨g, rfl⟩ : ∃ g : Nat, av = some ⟨g, 0, none⟩ := by
        rcases H.out.own.2 with ⟨_, e⟩ | ⟨g, cap, cur, e, _⟩
        · omega
        · simp only [Value.slice.injEq] at e; exact ⟨g, e.1⟩
      have rg := hs.out.range i _ hat
      have htk := Lib.hid (List.take_succ_eq_append_getElem hlt)
      clear hat
      generalize l[i] = s at *
      have hi0 : (0 : Int) ≤ (i : Int) := by omega
      have hi1 : (i : Int) < (l.length : Int) := by omega
      have HR := Lib.hid hr
      have ne : (Value.slice pt i ct).ownBlock ≠ some wr.heap.size := fun e => by have := (hr.own.lt _ e).2; omega
      have NE := Lib.hid ne
      have SW : Hid (w.heap.size ≤ wr.heap.size) := hr.le
      have hcp : ((l.take i).map Sec.str).length + [s.str].length ≤ 1048577 := by simp; omega
      clear hr hlen ne
      go_wp2_with (first
        | ((with_reducible refine wpList_load_mid_sec rfl _ rfl g (i * 32) ?_ s rg ?_); exact rfl)
        | ((with_reducible refine wpList_store_sec rfl _ _ rfl wr.heap.size s ?_ ?_ _ _ (Box.new wr _ _) ?_ ?_); exact rfl; exact rfl; exact rfl; intro w3 x3 g3)
        | ((with_reducible refine wpList_load_sec rfl _ rfl wr.heap.size ?_ s _ x3 ?_); exact rfl)
        | (go_at_call 68; refine (text_any s _).mono ?_; rintro e w4 ⟨rfl, k4⟩; have r4 := (((HR.out.alloc _).grown g3 (.inr NE.out) (fun k hk => by have : wr.heap.size = k := Option.some.inj hk; have := SW.out; omega)).later k4); have R4 := Lib.hid r4; have R5 := Lib.hid ((r4.alloc (.cells #[.string s.str] 9)).here); clear r4)
        | (at_builtin; refine wpList_append_rows rfl _ _ strE rfl w.heap.size _ _ rfl R5.out w4.heap.size _ [s.str] rfl (RBuf.lit1 strE w4 s.str) (by show _ * 17 ≤ _; omega) ?_; intro v6 w6 r6 g6 at6; obtain ⟨a6, q6, rfl⟩ := r6.form))
      have e6 : ((l.take i).map Sec.str ++ [s.str]).length = i + 1 := by simp; omega
      rw [e6] at r6
      have b6 : Below w.heap.size w w6 := (R4.out.alloc (.cells #[.string s.str] 9)).bel.grown g6 (R4.out.alloc (.cells #[.string s.str] 9)).le (fun k hk => (R4.out.own.lt k hk).1)
      have f6 : RBuf strE w.heap.size w w6 (.slice a6 (i + 1) q6) ((l.take (i + 1)).map Sec.str) := by
        rw [htk.out, List.map_append]
        exact ⟨r6.own, b6, r6.le⟩
      go_roundw
      case rel => exact ⟨i + 1, by omega, by go_num, f6⟩
      case measure => simp [intOf]; omega
    · have hfin : Hid (l.take i = l) := List.take_of_length_le (by omega)
      rw [hfin.out] at hr ⊢
      have HR := Lib.hid hr
      clear hr
      go_wp2
      go_ret
      exact ⟨_, rfl, HR.out⟩

end Go.Proofs.YtgcnebepklelpaaGreatDoor

/- What the program's landed and FlushDisk hand back. -/
namespace Go.Proofs.YtgcnebepklelpaaGreatDoor
open Go.RowKit

theorem run_copy_into {P : Program} (w : World) (dT sT ty elem : TypeId) (g o dLen dCap : Nat) (s : ByteArray) (cur : Array Value) (t : TypeId)
    (hu : P.underlying dT = some (.slice elem)) (hs : (P.info? elem).map (·.size) = some 1) (hg : w.heap[g]? = some (.cells cur t (0, 0))) (hfit : o + dLen ≤ cur.size) :
    ∃ w', (Builtin.copy_ #[dT, sT] ty #[.slice (some ⟨g, o, none⟩) dLen dCap, .string s]).run P w = .ok (.int .i64 ((Nat.min s.size dLen : Nat) : Int)) w' ∧ w'.heap[g]? = some (.cells (splice cur.toList o (bytesV (s.data.toList.take dLen))).toArray t (0, 0)) ∧ w.grownBy w' (some g) := by
  have hsz : s.data.toList.length = s.size := by rw [Array.length_toList]; rfl
  have hml : Nat.min s.size dLen ≤ dLen := Nat.min_le_right _ _
  have htl : (s.data.toList.take (Nat.min s.size dLen)) = s.data.toList.take dLen := by
    rcases Nat.le_total s.size dLen with h | h
    · rw [show Nat.min s.size dLen = s.size from Nat.min_eq_left h, List.take_of_length_le (by omega), List.take_of_length_le (by omega)]
    · rw [show Nat.min s.size dLen = dLen from Nat.min_eq_right h]
  have hlen : (bytesV (s.data.toList.take (Nat.min s.size dLen))).length = Nat.min s.size dLen := by
    rw [bytesV_length, List.length_take, hsz]; exact Nat.min_eq_left (Nat.min_le_left _ _)
  have hst := run_storeCells_at P g o t (bytesV (s.data.toList.take (Nat.min s.size dLen))) 0 cur w hg (by rw [hlen]; omega) (bytesV_one _)
  refine ⟨_, ?_, ?_, grownBy_setRow w g (cur.toList.take (o + 0) ++ bytesV (s.data.toList.take (Nat.min s.size dLen)) ++ cur.toList.drop (o + 0 + (bytesV (s.data.toList.take (Nat.min s.size dLen))).length)).toArray⟩
  · cases hq : P.info? elem with
    | none => simp [hq] at hs
    | some i =>
      have hmap : List.take (Nat.min s.size dLen) (List.map (fun b : UInt8 => Value.int IntKind.u8 (b.toNat : Int)) s.data.toList) = bytesV (s.data.toList.take (Nat.min s.size dLen)) := by rw [bytesV, List.map_take]
      simp [Builtin.copy_, run_underlying hu, Builtin.lenOf, Builtin.firstCells, sizeOf, typeInfo, hq]
      rw [hmap, hst]
      simp [Result.andThen, goInt]
  · have := setRow_heap w g _ (cur.toList.take (o + 0) ++ bytesV (s.data.toList.take (Nat.min s.size dLen)) ++ cur.toList.drop (o + 0 + (bytesV (s.data.toList.take (Nat.min s.size dLen))).length)).toArray t _ hg
    rw [this]
    congr 3
    rw [htl, splice]
    simp

def overS (s : Sec) (t : ByteArray) (n : Nat) : Sec := ⟨splice s.1 0 (t.data.toList.take (min n 32)), by rw [length_splice]; exact s.2; rw [s.2, List.length_take]; omega⟩

theorem splice_row (l : List Sec) (i : Nat) (s : Sec) (hi : l[i]? = some s) (t : ByteArray) (n : Nat) (hn : n ≤ 32) : splice (secE.row l) (i * 32) (bytesV (t.data.toList.take n)) = secE.row (l.set i (overS s t n)) := by
  induction l generalizing i with
  | nil => simp at hi
  | cons x l ih =>
    have e : secE.row (x :: l) = bytesV x.1 ++ secE.row l := rfl
    have hx : (bytesV x.1).length = 32 := by rw [bytesV_length, x.2]
    have hc : (bytesV (t.data.toList.take n)).length ≤ 32 := by rw [bytesV_length, List.length_take]; omega
    rw [e]
    cases i with
    | zero =>
      have : x = s := by simpa using hi
      subst this
      have e2 : secE.row ((x :: l).set 0 (overS x t n)) = bytesV (overS x t n).1 ++ secE.row l := rfl
      rw [e2]
      unfold overS splice
      simp only [Nat.zero_mul, List.take_zero, List.nil_append, Nat.zero_add]
      rw [List.drop_append_of_le_length (by omega), ← List.append_assoc]
      congr 1
      rw [Nat.min_eq_left hn]
      simp [bytesV]
    | succ i =>
      have hi' : l[i]? = some s := by simpa using hi
      have e2 : secE.row ((x :: l).set (i + 1) (overS s t n)) = bytesV x.1 ++ secE.row (l.set i (overS s t n)) := rfl
      rw [e2, ← ih i hi']
      unfold splice
      have h1 : (i + 1) * 32 = (bytesV x.1).length + i * 32 := by rw [hx]; omega
      rw [h1, List.take_length_add_append, Nat.add_assoc, List.drop_length_add_append]
      simp

theorem splice_take {α : Type} (L : List α) (o m : Nat) (cs : List α) (h : o + cs.length ≤ m) (hm : m ≤ L.length) : (splice L o cs).take m = splice (L.take m) o cs := by
  unfold splice
  rw [List.take_append, List.take_append, List.take_take, List.length_take, List.drop_take]
  have h1 : min o L.length = o := by omega
  have h2 : min m o = o := by omega
  rw [h1, h2, List.take_take, Nat.min_eq_left (show o ≤ m by omega)]
  congr 1
  rw [List.take_of_length_le (show cs.length ≤ m - o by omega)]
  congr 1
  congr 1
  omega

theorem RBuf.copied {B g cap : Nat} {w w' : World} {l : List Sec} (h : RBuf secE B w w (.slice (some ⟨g, 0, none⟩) l.length cap) l) (i : Nat) (s : Sec) (hi : l[i]? = some s) (t : ByteArray) (n : Nat) (hn : n ≤ 32)
    (hw : ∀ cur ty, w.heap[g]? = some (.cells cur ty (0, 0)) → w'.heap[g]? = some (.cells (splice cur.toList (i * 32) (bytesV (t.data.toList.take n))).toArray ty (0, 0))) (hg : w.grownBy w' (some g)) :
    RBuf secE B w' w' (.slice (some ⟨g, 0, none⟩) l.length cap) (l.set i (overS s t n)) := by
  have hlt : i < l.length := (List.getElem?_eq_some_iff.1 hi).1
  have hc : (bytesV (t.data.toList.take n)).length ≤ 32 := by rw [bytesV_length, List.length_take]; omega
  have hl : (l.set i (overS s t n)).length = l.length := by simp
  have hmul : (i + 1) * 32 ≤ l.length * 32 := Nat.mul_le_mul_right _ hlt
  rcases h.own.2 with ⟨e, _⟩ | ⟨g', cap', cur, e, hB, hh, hnc, hcp, hcs, htake⟩
  · cases e
  · simp only [Value.slice.injEq, Option.some.injEq, Addr.mk.injEq, true_and, and_true] at e
    obtain ⟨rfl, rfl⟩ := e
    have hsz : secE.sz = 32 := rfl
    rw [hsz] at hcs
    have hcl : l.length * 32 ≤ cap * 32 := Nat.mul_le_mul_right _ hnc
    have hcl2 : cur.toList.length = cap * 32 := by rw [Array.length_toList]; exact hcs
    refine ⟨⟨?_, .inr ⟨g, cap, _, by rw [hl], hB, hw _ _ hh, by rw [hl]; exact hnc, hcp, ?_, ?_⟩⟩, Below.refl _ _, Nat.le_trans h.le hg.size⟩
    · rw [secE.row_length]
    · rw [List.size_toArray, length_splice _ _ _ (by rw [hcl2]; omega), hcl2]; rfl
    · rw [hl, hsz, List.toList_toArray, splice_take _ _ _ _ (by omega) (by rw [hcl2]; exact hcl)]
      rw [hsz] at htake
      rw [htake]
      exact splice_row l i s hi t n hn


theorem step_copy_into {w : World} {ops : Array Oper} {o : Oper} {a : Act} {K : Act → World → Prop} {Q : Exit → Act → World → Prop} {X : Prop} (hgd : o.guard = none) (d s : Operand) (dT sT : TypeId)
    (ho : o.op = .call { callee := .builtin .copy, args := #[d, s], argTypes := #[dT, sT] }) (elem : TypeId) (hu : Tryz.prog.underlying dT = some (.slice elem)) (hsz : (Tryz.prog.info? elem).map (·.size) = some 1)
    (g off dLen dCap : Nat) (hd : a.eval d = .slice (some ⟨g, off, none⟩) dLen dCap) (t : ByteArray) (hs : a.eval s = .string t) (cur : Array Value) (ty : TypeId) (hg : w.heap[g]? = some (.cells cur ty (0, 0))) (hfit : off + dLen ≤ cur.size)
    (h : ∀ w', w'.heap[g]? = some (.cells (splice cur.toList off (bytesV (t.data.toList.take dLen))).toArray ty (0, 0)) → w.grownBy w' (some g) → K (a.put o.dst (.int .i64 ((Nat.min t.size dLen : Nat) : Int))) w') :
    if Region.wanted o (yielded ops a.tmps) = true then Oper.wp Tryz.prog o a w K Q else X := by
  have hw : Region.wanted o (yielded ops a.tmps) = true := by simp [Region.wanted, hgd]
  rw [if_pos hw]
  obtain ⟨w', hrun, hb, hgr⟩ := run_copy_into (P := Tryz.prog) w dT sT o.type elem g off dLen dCap t cur ty hu hsz hg hfit
  unfold Oper.wp
  simp [execOp, ho, resolve, invoke, builtin, hd, hs, hrun, Result.andThen]
  exact h w' hb hgr

def putS (l : List Sec) (k : Nat) (t : ByteArray) (m : Nat) : List Sec := match l[k]? with
  | some s => l.set k (overS s t m)
  | none => l
theorem putS_length (l : List Sec) (k : Nat) (t : ByteArray) (m : Nat) : (putS l k t m).length = l.length := by unfold putS; split <;> simp
theorem putS_at {l : List Sec} {k : Nat} (h : k < l.length) (t : ByteArray) (m : Nat) : putS l k t m = l.set k (overS l[k] t m) := by unfold putS; rw [List.getElem?_eq_getElem h]
def landI (l : List Sec) (ws : List Wr) (n : Nat) : Nat → List Sec
  | 0 => l
  | i + 1 => match ws[i]? with
    | some x => putS (landI l ws n i) x.at_.toNat x.text (if i + 1 = ws.length then n else 32)
    | none => landI l ws n i
theorem landI_length (l : List Sec) (ws : List Wr) (n i : Nat) : (landI l ws n i).length = l.length := by
  induction i with
  | zero => rfl
  | succ i ih => unfold landI; split <;> simp [putS_length, ih]
theorem landI_succ {l : List Sec} {ws : List Wr} {n i : Nat} (h : i < ws.length) : landI l ws n (i + 1) = putS (landI l ws n i) ws[i].at_.toNat ws[i].text (if i + 1 = ws.length then n else 32) := by
  rw [landI, List.getElem?_eq_getElem h]

def landD (d : Dk) (ws : List Wr) (n : Nat) : Dk := if d.ok then ⟨(landI (d.sec.map secOf) ws n ws.length).map Sec.str, []⟩ else d

set_option maxRecDepth 100000 in
set_option maxHeartbeats 4000000 in
theorem landed_any (d : Dk) (v : Value) (B T : Nat) (w : World) (h : DOwn B T w v d) (hs : d.small) (ht : ∀ s ∈ d.sec, s.size ≤ 1099511627776) (hu : ∀ x ∈ d.cache, x.text.size ≤ 1099511627776)
    (vw : Value) (ws : List Wr) (hw : Rows' wrE w vw ws) (hwl : ws.length ≤ 1048576) (n : Nat) (hn : n ≤ 32) (hin : d.ok → ∀ x ∈ ws, 0 ≤ x.at_ ∧ x.at_ < d.sec.length) :
    Calls Tryz.prog 100 #[v, vw, .int .i64 (n : Int)] w fun e w' => DiskR1 (landD d ws n) w e w' := by
  obtain ⟨aa, ab, ca, cb, rfl⟩ := h.form
  obtain ⟨aw, cw, rfl⟩ : ∃ (a : Option Addr) (c : Nat), vw = .slice a ws.length c := by
    rcases hw with ⟨e, a, c, rfl⟩ | ⟨g, o, c, rfl, _⟩
    · exact ⟨a, c, by rw [e]; rfl⟩
    · exact ⟨_, c, rfl⟩
  obtain ⟨hx0, hx1, b0, hsz⟩ := two_boxes w #[.slice aa d.sec.length ca, .slice ab d.cache.length cb] #[.slice none 0 0, .slice none 0 0] 25 25
  have h' := h.later b0
  have hw' := hw.later b0
  go_enter Tryz.func100, Tryz.ntmps100
  go_wp2_with fail
  generalize ((w.alloc (.cells #[.slice aa d.sec.length ca, .slice ab d.cache.length cb] 25)).alloc (.cells #[.slice none 0 0, .slice none 0 0] 25)) = W at hx0 hx1 b0 hsz h' hw' ⊢
  have HSZ := Lib.hid hsz
  refine (implDiskOk_any d _ _ h'.rd hs).mono ?_
  rintro e w2 ⟨rfl, k2⟩
  have b2 := b0.trans (k2.mono b0.size)
  have X0 := Lib.hid (hx0.later k2)
  have X1 := Lib.hid (hx1.later k2)
  have H2 := Lib.hid (h'.later k2)
  have HW2 := Lib.hid (hw'.later k2)
  have hWl : Hid (w.heap.size + 1 < W.heap.size) := show _ < _ by omega
  have s2 : W.heap.size ≤ w2.heap.size := k2.size
  clear h hw hx0 hx1 hsz hw'
  by_cases hok : d.ok
  · have E2 := Lib.hid (show landD d ws n = ⟨(landI (d.sec.map secOf) ws n ws.length).map Sec.str, []⟩ from if_pos hok)
    have HIN := Lib.hid (hin hok)
    have hD1 : d.sec.length ≤ 100 := hok.2.1
    have hD0 : 1 ≤ d.sec.length := hok.1
    rw [decide_eq_true hok]
    have c0 := X0.out.cell 0 (.slice aa d.sec.length ca) rfl
    clear hin ht hu h'
    go_wp2_with (at_make; refine wpList_make_room rfl _ _ secE rfl .i64 .i64 _ d.sec.length rfl rfl rfl (by show 33 * d.sec.length ≤ _; omega) ?_; intro w3 hr3; have c3 := (X0.out.later hr3.bel).cell 0 (.slice aa d.sec.length ca) rfl)
    have HR3 := Lib.hid hr3
    clear hr3 c3 c0
    go_loopw [7, 25] (fun tv iv wr => ∃ i : Nat, i ≤ d.sec.length ∧ iv = .int .i64 (i : Int) ∧ RBuf secE w2.heap.size w2 wr tv ((d.sec.map secOf).take i)) (fun _ iv _ => d.sec.length - (intOf iv).toNat)
    case atStart => exact ⟨0, by omega, rfl, HR3.out⟩
    case round =>
      obtain ⟨i, hi, rfl, hr⟩ := hrel
      obtain ⟨pt, ct, rfl⟩ := hr.form
      have hlen : ((d.sec.map secOf).take i).length = i := by simp; omega
      rw [hlen] at hr ⊢
      by_cases hlt : i < d.sec.length
      · obtain ⟨_, _, hv, l1, _, _⟩ := H2.out.later hr.bel
        simp only [Value.agg.injEq, Array.mk.injEq, List.cons.injEq, and_true] at hv
        obtain ⟨rfl, _⟩ := hv
        obtain ⟨ga, rfl⟩ : ∃ g1 : Nat, aa = some ⟨g1, 0, none⟩ := by
          rcases l1.1.own.2 with ⟨_, e⟩ | ⟨g, cap, cur, e, _⟩
          · omega
          · simp only [Value.slice.injEq] at e; exact ⟨g, e.1⟩
        have hat := List.getElem?_eq_getElem hlt
        have cS : wr.cell? ⟨ga, i, none⟩ = some (.string d.sec[i]) := by
          have := l1.1.cell rfl i _ hat 0 _ rfl
          rw [show strE.sz = 1 from rfl, Nat.mul_one, Nat.add_zero] at this
          exact this
        have htk : Hid ((d.sec.map secOf).take (i + 1) = (d.sec.map secOf).take i ++ [secOf d.sec[i]]) := by
          show (d.sec.map secOf).take (i + 1) = (d.sec.map secOf).take i ++ [secOf d.sec[i]]
          rw [List.take_succ_eq_append_getElem (by simpa using hlt)]; simp
        clear hat l1
        generalize d.sec[i] = t at *
        have hi0 : (0 : Int) ≤ (i : Int) := by omega
        have hi1 : (i : Int) < (d.sec.length : Int) := by omega
        have HR := Lib.hid hr
        have hcp : ((d.sec.map secOf).take i).length + [secOf t].length ≤ 101 := by simp; omega
        clear hr hlen
        go_wp2_with (first
          | (go_at_call 98; refine (sectorOf_any t _).mono ?_; rintro e w4 ⟨rfl, k4⟩; have r4 := HR.out.later k4; have R4 := Lib.hid r4; have R5 := Lib.hid ((r4.alloc (.cells (bytesV (secOf t).1).toArray 110)).here); clear r4)
          | ((with_reducible refine wpList_build_sec rfl _ rfl (secOf t) ?_ ?_); exact rfl)
          | (at_builtin; refine wpList_append_rows rfl _ _ secE rfl w2.heap.size _ _ rfl R5.out w4.heap.size _ [secOf t] rfl (RBuf.lit1 secE w4 (secOf t)) (by show _ * 33 ≤ _; omega) ?_; intro v6 w6 r6 g6 at6; obtain ⟨a6, q6, rfl⟩ := r6.form))
        have e6 : ((d.sec.map secOf).take i ++ [secOf t]).length = i + 1 := by simp; omega
        rw [e6] at r6
        have b6 : Below w2.heap.size w2 w6 := (R4.out.alloc (.cells (bytesV (secOf t).1).toArray 110)).bel.grown g6 (R4.out.alloc (.cells (bytesV (secOf t).1).toArray 110)).le (fun k hk => (R4.out.own.lt k hk).1)
        have f6 : RBuf secE w2.heap.size w2 w6 (.slice a6 (i + 1) q6) ((d.sec.map secOf).take (i + 1)) := by
          rw [htk.out]
          exact ⟨r6.own, b6, r6.le⟩
        refine ⟨⟨_, _, _, ⟨i + 1, by omega, ?_, f6⟩, rfl, rfl, rfl⟩, ?_⟩
        · go_num
        · simp [intOf]; omega
      · have hie : i = d.sec.length := by omega
        subst hie
        rw [List.take_of_length_le (by simp)] at hr
        have HR := Lib.hid hr
        have s5 : Hid (w2.heap.size ≤ wr.heap.size) := hr.le
        have B5 := Lib.hid hr.bel
        obtain ⟨g7, rfl⟩ : ∃ g1 : Nat, pt = some ⟨g1, 0, none⟩ := by
          rcases hr.own.2 with ⟨_, e⟩ | ⟨g, cap, cur, e, _⟩
          · rw [List.length_map] at e; omega
          · simp only [Value.slice.injEq] at e; exact ⟨g, e.1⟩
        have hg7 : w2.heap.size ≤ g7 ∧ g7 < wr.heap.size := hr.own.lt g7 rfl
        clear hr hlen hlt HR3
        go_wp2
        obtain ⟨wa, hwa⟩ : ∃ wa, wa = wr := ⟨_, rfl⟩
        subst hwa
        go_loopw [37] (fun iv wr => ∃ i : Nat, i ≤ ws.length ∧ iv = .int .i64 (i : Int) ∧ RBuf secE w2.heap.size wr wr (.slice (some ⟨g7, 0, none⟩) d.sec.length ct) (landI (d.sec.map secOf) ws n i) ∧ Below w2.heap.size w2 wr) (fun iv _ => ws.length - (intOf iv).toNat)
        case atStart => exact ⟨0, by omega, rfl, HR.out.here, B5.out⟩
        case round =>
          obtain ⟨i, hi, rfl, hbr, hbel⟩ := hrel
          have hll : (landI (d.sec.map secOf) ws n i).length = d.sec.length := by rw [landI_length]; simp
          by_cases hlt : i < ws.length
          · obtain ⟨g, off, rfl, hcl⟩ := (HW2.out.later hbel).at i hlt
            have d0 : wr.cell? ⟨g, off + i * 2, none⟩ = some (.int .i64 ws[i].at_) := hcl wr (Below.refl _ _) 0 _ rfl
            have d1 : wr.cell? ⟨g, off + i * 2 + 1, none⟩ = some (.string ws[i].text) := hcl wr (Below.refl _ _) 1 _ rfl
            obtain ⟨hx1, hx2⟩ := HIN.out _ (List.getElem_mem hlt)
            have hsu := Lib.hid (landI_succ (l := d.sec.map secOf) (n := n) hlt)
            clear hcl
            generalize ws[i] = x at *
            obtain ⟨na, t⟩ := x
            simp only at d0 d1 hx1 hx2 hsu
            obtain ⟨k, rfl⟩ := Int.eq_ofNat_of_zero_le hx1
            rw [Int.toNat_natCast] at hsu
            have hk : k < (landI (d.sec.map secOf) ws n i).length := by omega
            have hat := List.getElem?_eq_getElem hk
            rw [← hll] at hbr
            obtain ⟨cur, hh, hcs⟩ : ∃ cur, wr.heap[g7]? = some (.cells cur secE.ty (0, 0)) ∧ (k + 1) * 32 ≤ cur.size := by
              rcases hbr.own.2 with ⟨e, _⟩ | ⟨g', cap', cur, e, hB, hh, hnc, hcp, hcs, htake⟩
              · cases e
              · simp only [Value.slice.injEq, Option.some.injEq, Addr.mk.injEq, true_and, and_true] at e
                obtain ⟨rfl, rfl⟩ := e
                refine ⟨cur, hh, ?_⟩
                rw [hcs, show secE.sz = 32 from rfl]
                exact Nat.mul_le_mul_right _ (by omega)
            obtain ⟨m, hm⟩ : ∃ m, (if i + 1 = ws.length then n else 32) = m := ⟨_, rfl⟩
            have hm32 : m ≤ 32 := by rw [← hm]; split <;> omega
            rw [hm] at hsu
            have FIN : Hid (∀ w6 : World, (((wr.alloc (.cells #[.int .i64 (k : Int), .string t] 104)).drew)).grownBy w6 (some g7) → w6.heap[g7]? = some (.cells (splice cur.toList (k * 32) (bytesV (t.data.toList.take m))).toArray secE.ty (0, 0)) →
                RBuf secE w2.heap.size w6 w6 (.slice (some ⟨g7, 0, none⟩) d.sec.length ct) (landI (d.sec.map secOf) ws n (i + 1)) ∧ Below w2.heap.size w2 w6) := by
              intro w6 hg6 hh6
              have bA := belAlloc wr (.cells #[.int .i64 (k : Int), .string t] 104)
              have hx : ((wr.alloc (.cells #[.int .i64 (k : Int), .string t] 104)).drew).heap[g7]? = some (.cells cur secE.ty (0, 0)) := (bA.block g7 (Array.getElem?_eq_some_iff.1 hh).1).trans hh
              have := (((hbr.alloc (.cells #[.int .i64 (k : Int), .string t] 104)).here).drew').copied k _ hat t m hm32 (fun c ty hc => by rw [hx] at hc; simp only [Option.some.injEq, Obj.cells.injEq] at hc; obtain ⟨rfl, rfl, _⟩ := hc; exact hh6) hg6
              rw [hll] at this
              refine ⟨?_, ?_⟩
              · rw [hsu.out, putS_at hk]; exact this
              · have b1 : Below w2.heap.size w2 ((wr.alloc (.cells #[.int .i64 (k : Int), .string t] 104)).drew) := (hbel.trans (bA.mono hbel.size)).drew
                exact b1.grown hg6 b1.size (fun j hj => by have : g7 = j := Option.some.inj hj; omega)
            have HX : Hid ((((wr.alloc (.cells #[.int .i64 (k : Int), .string t] 104)).drew)).heap[g7]? = some (.cells cur secE.ty (0, 0))) := ((belAlloc wr (.cells #[.int .i64 (k : Int), .string t] 104)).block g7 (Array.getElem?_eq_some_iff.1 hh).1).trans hh
            have hfit : Hid (k * 32 + m ≤ cur.size) := show _ ≤ _ by omega
            have hi0 : (0 : Int) ≤ (i : Int) := by omega
            have hi1 : (i : Int) < (ws.length : Int) := by omega
            have hk0 : (0 : Int) ≤ (k : Int) := by omega
            have hm0 : (0 : Int) ≤ (m : Int) := by omega
            have hm1 : (m : Int) ≤ 32 := by omega
            have HKK := Lib.hid hk
            have HLL := Lib.hid hll
            clear hat hbr hh hcs hsu hk hll hg7
            by_cases hlast : i + 1 = ws.length
            · rw [if_pos hlast] at hm
              subst hm
              have hq : ((i : Int) == (ws.length : Int) - 1) = true := by simp; omega
              go_wp2
              go_region_law (first | (refine step_copy_into (by rfl) _ _ 134 9 (by rfl) 5 Tryz.underlying134 (by kernel_rfl) g7 (k * 32) n 32 (by rfl) t (by rfl) cur secE.ty HX.out hfit.out ?_; intro w6 hh6 hg6))
              all_goals
                obtain ⟨fR, fB⟩ := FIN.out w6 hg6 hh6
                have FR := Lib.hid fR
                have FB := Lib.hid fB
                clear fR fB hh6 hg6 FIN HX hq
                go_wp2
                go_roundw
                case rel => exact ⟨i + 1, by omega, by go_num, FR.out, FB.out⟩
                case measure => simp [intOf]; omega
            · rw [if_neg hlast] at hm
              subst hm
              have hq : ((i : Int) == (ws.length : Int) - 1) = false := by simp; omega
              go_wp2
              go_region_law (first | (refine step_copy_into (by rfl) _ _ 134 9 (by rfl) 5 Tryz.underlying134 (by kernel_rfl) g7 (k * 32) 32 32 (by rfl) t (by rfl) cur secE.ty HX.out hfit.out ?_; intro w6 hh6 hg6))
              all_goals
                obtain ⟨fR, fB⟩ := FIN.out w6 hg6 hh6
                have FR := Lib.hid fR
                have FB := Lib.hid fB
                clear fR fB hh6 hg6 FIN HX hq
                go_wp2
                go_roundw
                case rel => exact ⟨i + 1, by omega, by go_num, FR.out, FB.out⟩
                case measure => simp [intOf]; omega
          · have hie : i = ws.length := by omega
            subst hie
            have HB := Lib.hid hbr
            have X7 := Lib.hid (X1.out.later hbel)
            have b7 := b2.trans (hbel.mono b2.size)
            rw [← hll] at hbr
            have hl7 : (landI (d.sec.map secOf) ws n ws.length).length ≤ 1048576 := by omega
            go_wp2_with fail
            rw [← hll]
            refine (sectorTexts_any _ _ _ _ hbr hl7).mono ?_
            rintro e w8 ⟨v8, rfl, r8⟩
            obtain ⟨a8, q8, rfl⟩ := r8.form
            rw [List.length_map] at r8 ⊢
            have x8 := X7.out.later r8.bel
            have r0 := x8.cell 0 (.slice none 0 0) rfl
            have r1 := x8.cell 1 (.slice none 0 0) rfl
            have f0 := x8.loose 0
            have f1 := x8.loose 1
            have b8 := Lib.hid (b7.trans (r8.bel.mono b7.size))
            have R8 := Lib.hid r8
            have SZ : Hid (w.heap.size + 1 < wr.heap.size ∧ w.heap.size ≤ wr.heap.size) := ⟨Nat.lt_of_lt_of_le hWl.out (Nat.le_trans s2 hbel.size), b7.size⟩
            clear x8 r8 hbr hll
            go_wp2
            refine bodyPost_ret (v := .agg #[.slice a8 (landI (d.sec.map secOf) ws n ws.length).length q8, .slice none 0 0]) (by simp [results, Tryz.results100, go_sem, r0, r1]) rfl ?_
            rw [E2.out]
            have q1 := (R8.out.lown.store (w.heap.size + 1) 0 (.slice a8 (landI (d.sec.map secOf) ws n ws.length).length q8) SZ.out.1).store (w.heap.size + 1) 1 (.slice none 0 0) SZ.out.1
            refine ⟨_, rfl, ⟨_, _, rfl, (q1.deeper SZ.out.2).wider (by simp) (Nat.le_refl _), ⟨⟨World.ownsRow_nil _ _ _ _, Below.refl _ _, ?_⟩, Nat.le_refl _, fun k hk => by cases hk⟩, ?_⟩, ?_⟩
            · have := b8.out.size; simpa using this
            · cases hv : (Value.slice a8 (landI (d.sec.map secOf) ws n ws.length).length q8).ownBlock with
              | none => exact .inl rfl
              | some k => exact .inr (by simp [Value.ownBlock])
            · exact (b8.out.setCell (p := ⟨w.heap.size + 1, 0, none⟩) (by simp) _).setCell (p := ⟨w.heap.size + 1, 1, none⟩) (by simp) _
  · have E2 := Lib.hid (show landD d ws n = d from if_neg hok)
    rw [decide_eq_false hok]
    have m0 := X0.out.cell 0 (.slice aa d.sec.length ca) rfl
    have m1 := X0.out.cell 1 (.slice ab d.cache.length cb) rfl
    have H7 := H2.out
    clear hin h'
    go_wp2_with fail
    clear m0 m1
    refine (copyDisk_any d _ B T _ H7 hs ht hu).mono ?_
    rintro e w8 ⟨v8, rfl, o8, k8⟩
    obtain ⟨a8, a9, q8, q9, rfl⟩ := o8.form
    have x8 := X1.out.later k8
    have r0 := x8.cell 0 (.slice none 0 0) rfl
    have r1 := x8.cell 1 (.slice none 0 0) rfl
    have f0 := x8.loose 0
    have f1 := x8.loose 1
    have b8 := Lib.hid (b2.trans (k8.mono b2.size))
    have O8 := Lib.hid o8
    have S2 := Lib.hid s2
    clear x8 o8 H7 k8 s2
    go_wp2
    refine bodyPost_ret (v := .agg #[.slice a8 d.sec.length q8, .slice a9 d.cache.length q9]) (by simp [results, Tryz.results100, go_sem, r0, r1]) rfl ?_
    have hl7 : w.heap.size + 1 < w2.heap.size := Nat.lt_of_lt_of_le hWl.out S2.out
    rw [E2.out]
    exact ⟨_, rfl, ((O8.out.store (w.heap.size + 1) 0 (.slice a8 d.sec.length q8) hl7).store (w.heap.size + 1) 1 (.slice a9 d.cache.length q9) hl7).widen (by omega) (by simp) (Nat.le_refl _), (b8.out.setCell (p := ⟨w.heap.size + 1, 0, none⟩) (by simp) _).setCell (p := ⟨w.heap.size + 1, 1, none⟩) (by simp) _⟩

end Go.Proofs.YtgcnebepklelpaaGreatDoor
