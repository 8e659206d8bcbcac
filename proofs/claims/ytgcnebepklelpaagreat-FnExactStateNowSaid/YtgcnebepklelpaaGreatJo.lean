/- Texts of our own, joined. -/
import Derived.Test.YtgcnebepklelpaaGreatJn
import Derived.Test.YtgcnebepklelpaaGreatJa
import Derived.Test.YtgcnebepklelpaaGreatJl
/- The records of a box gathered: one record more. -/
namespace Go.Proofs.YtgcnebepklelpaaGreat
open Go.RowKit

theorem Box.twelve {w : World} {b : Nat} {u0 u1 u2 u3 u4 u5 u6 u7 u8 u9 u10 u11 : Value} {t : TypeId} (h : Box w b #[u0, u1, u2, u3, u4, u5, u6, u7, u8, u9, u10, u11] t) :
    w.cell? ⟨b, 0, none⟩ = some u0 ∧ w.cell? ⟨b, 1, none⟩ = some u1 ∧ w.cell? ⟨b, 2, none⟩ = some u2 ∧ w.cell? ⟨b, 3, none⟩ = some u3 ∧ w.cell? ⟨b, 4, none⟩ = some u4 ∧ w.cell? ⟨b, 5, none⟩ = some u5 ∧ w.cell? ⟨b, 6, none⟩ = some u6 ∧ w.cell? ⟨b, 7, none⟩ = some u7 ∧ w.cell? ⟨b, 8, none⟩ = some u8 ∧ w.cell? ⟨b, 9, none⟩ = some u9 ∧ w.cell? ⟨b, 10, none⟩ = some u10 ∧ w.cell? ⟨b, 11, none⟩ = some u11 :=
  ⟨h.cell 0 _ rfl, h.cell 1 _ rfl, h.cell 2 _ rfl, h.cell 3 _ rfl, h.cell 4 _ rfl, h.cell 5 _ rfl, h.cell 6 _ rfl, h.cell 7 _ rfl, h.cell 8 _ rfl, h.cell 9 _ rfl, h.cell 10 _ rfl, h.cell 11 _ rfl⟩
theorem Kept.of_alloc (w : World) (o : Obj) (B T : Nat) : Kept B T w (w.alloc o) := Kept.of_below (belNew w o) B T
theorem Kept.wider {B T B' T' : Nat} {w w' : World} (h : Kept B T w w') (hB : B' ≤ B) (hT : T ≤ T') : Kept B' T' w w' := ⟨h.os, h.tape, h.output, h.size, fun k hk ho => h.block k hk (by omega)⟩
theorem Kept.drew {B T : Nat} {w w' : World} (h : Kept B T w w') : Kept B T w w'.drew := ⟨h.os, h.tape, h.output, h.size, h.block⟩
theorem Kept.store {B T : Nat} {w w' : World} (h : Kept B T w w') (g i : Nat) (u : Value) (h1 : B ≤ g) (h2 : g < T) : Kept B T w (w'.setCell ⟨g, i, none⟩ u) :=
  h.trans (Kept.of_grown (stored_grown w' g i u) (fun k hk => by have := Option.some.inj hk; omega))
theorem TbAt.drew {w : World} {a n : Nat} {t : Tb} (h : TbAt w a n t) : TbAt w.drew a n t := ⟨h.box, h.adds.same rfl, h.flags.same rfl⟩
theorem TbAt.setNext {w : World} {a n : Nat} {t : Tb} (h : TbAt w a n t) (m : Int) : TbAt (w.setCell ⟨a + 2, 9, none⟩ (.int .i64 m)) a n ⟨t.named, m, t.adds, t.flags⟩ :=
  ⟨h.box.set 9 (.int .i64 m), h.adds.setCell (show a ≠ a + 2 by omega) _, h.flags.setCell (show a + 1 ≠ a + 2 by omega) _⟩
def put9 (w : World) (b : Nat) (x : Itm) : World := ((((((((w.setCell ⟨b, 0, none⟩ (.int .i64 x.1)).setCell ⟨b, 1, none⟩ (.int .i64 x.2.kind)).setCell ⟨b, 2, none⟩ (.int .i64 x.2.valid)).setCell ⟨b, 3, none⟩ (.int .i64 x.2.uid)).setCell ⟨b, 4, none⟩ (.int .i64 x.2.next)).setCell ⟨b, 5, none⟩ (.int .i64 x.2.flags)).setCell ⟨b, 6, none⟩ (.string x.2.user)).setCell ⟨b, 7, none⟩ (.string x.2.name)).setCell ⟨b, 8, none⟩ (.string x.2.text)
theorem put9_grown (w : World) (b : Nat) (x : Itm) : w.grownBy (put9 w b x) (some b) :=
  ((((((((stored_grown w b 0 _).trans (stored_grown _ b 1 _)).trans (stored_grown _ b 2 _)).trans (stored_grown _ b 3 _)).trans (stored_grown _ b 4 _)).trans (stored_grown _ b 5 _)).trans (stored_grown _ b 6 _)).trans (stored_grown _ b 7 _)).trans (stored_grown _ b 8 _)
theorem Box.put9 {w : World} {b : Nat} {u0 u1 u2 u3 u4 u5 u6 u7 u8 u9 u10 u11 : Value} {t : TypeId} (h : Box w b #[u0, u1, u2, u3, u4, u5, u6, u7, u8, u9, u10, u11] t) (x : Itm) :
    Box (Go.Proofs.YtgcnebepklelpaaGreat.put9 w b x) b #[.int .i64 x.1, .int .i64 x.2.kind, .int .i64 x.2.valid, .int .i64 x.2.uid, .int .i64 x.2.next, .int .i64 x.2.flags, .string x.2.user, .string x.2.name, .string x.2.text, u9, u10, u11] t :=
  have a0 : Box (w.setCell ⟨b, 0, none⟩ (.int .i64 x.1)) b #[.int .i64 x.1, u1, u2, u3, u4, u5, u6, u7, u8, u9, u10, u11] t := h.set 0 (.int .i64 x.1)
  have a1 : Box ((w.setCell ⟨b, 0, none⟩ (.int .i64 x.1)).setCell ⟨b, 1, none⟩ (.int .i64 x.2.kind)) b #[.int .i64 x.1, .int .i64 x.2.kind, u2, u3, u4, u5, u6, u7, u8, u9, u10, u11] t := a0.set 1 (.int .i64 x.2.kind)
  have a2 : Box (((w.setCell ⟨b, 0, none⟩ (.int .i64 x.1)).setCell ⟨b, 1, none⟩ (.int .i64 x.2.kind)).setCell ⟨b, 2, none⟩ (.int .i64 x.2.valid)) b #[.int .i64 x.1, .int .i64 x.2.kind, .int .i64 x.2.valid, u3, u4, u5, u6, u7, u8, u9, u10, u11] t := a1.set 2 (.int .i64 x.2.valid)
  have a3 : Box ((((w.setCell ⟨b, 0, none⟩ (.int .i64 x.1)).setCell ⟨b, 1, none⟩ (.int .i64 x.2.kind)).setCell ⟨b, 2, none⟩ (.int .i64 x.2.valid)).setCell ⟨b, 3, none⟩ (.int .i64 x.2.uid)) b #[.int .i64 x.1, .int .i64 x.2.kind, .int .i64 x.2.valid, .int .i64 x.2.uid, u4, u5, u6, u7, u8, u9, u10, u11] t := a2.set 3 (.int .i64 x.2.uid)
  have a4 : Box (((((w.setCell ⟨b, 0, none⟩ (.int .i64 x.1)).setCell ⟨b, 1, none⟩ (.int .i64 x.2.kind)).setCell ⟨b, 2, none⟩ (.int .i64 x.2.valid)).setCell ⟨b, 3, none⟩ (.int .i64 x.2.uid)).setCell ⟨b, 4, none⟩ (.int .i64 x.2.next)) b #[.int .i64 x.1, .int .i64 x.2.kind, .int .i64 x.2.valid, .int .i64 x.2.uid, .int .i64 x.2.next, u5, u6, u7, u8, u9, u10, u11] t := a3.set 4 (.int .i64 x.2.next)
  have a5 : Box ((((((w.setCell ⟨b, 0, none⟩ (.int .i64 x.1)).setCell ⟨b, 1, none⟩ (.int .i64 x.2.kind)).setCell ⟨b, 2, none⟩ (.int .i64 x.2.valid)).setCell ⟨b, 3, none⟩ (.int .i64 x.2.uid)).setCell ⟨b, 4, none⟩ (.int .i64 x.2.next)).setCell ⟨b, 5, none⟩ (.int .i64 x.2.flags)) b #[.int .i64 x.1, .int .i64 x.2.kind, .int .i64 x.2.valid, .int .i64 x.2.uid, .int .i64 x.2.next, .int .i64 x.2.flags, u6, u7, u8, u9, u10, u11] t := a4.set 5 (.int .i64 x.2.flags)
  have a6 : Box (((((((w.setCell ⟨b, 0, none⟩ (.int .i64 x.1)).setCell ⟨b, 1, none⟩ (.int .i64 x.2.kind)).setCell ⟨b, 2, none⟩ (.int .i64 x.2.valid)).setCell ⟨b, 3, none⟩ (.int .i64 x.2.uid)).setCell ⟨b, 4, none⟩ (.int .i64 x.2.next)).setCell ⟨b, 5, none⟩ (.int .i64 x.2.flags)).setCell ⟨b, 6, none⟩ (.string x.2.user)) b #[.int .i64 x.1, .int .i64 x.2.kind, .int .i64 x.2.valid, .int .i64 x.2.uid, .int .i64 x.2.next, .int .i64 x.2.flags, .string x.2.user, u7, u8, u9, u10, u11] t := a5.set 6 (.string x.2.user)
  have a7 : Box ((((((((w.setCell ⟨b, 0, none⟩ (.int .i64 x.1)).setCell ⟨b, 1, none⟩ (.int .i64 x.2.kind)).setCell ⟨b, 2, none⟩ (.int .i64 x.2.valid)).setCell ⟨b, 3, none⟩ (.int .i64 x.2.uid)).setCell ⟨b, 4, none⟩ (.int .i64 x.2.next)).setCell ⟨b, 5, none⟩ (.int .i64 x.2.flags)).setCell ⟨b, 6, none⟩ (.string x.2.user)).setCell ⟨b, 7, none⟩ (.string x.2.name)) b #[.int .i64 x.1, .int .i64 x.2.kind, .int .i64 x.2.valid, .int .i64 x.2.uid, .int .i64 x.2.next, .int .i64 x.2.flags, .string x.2.user, .string x.2.name, u8, u9, u10, u11] t := a6.set 7 (.string x.2.name)
  have a8 : Box (((((((((w.setCell ⟨b, 0, none⟩ (.int .i64 x.1)).setCell ⟨b, 1, none⟩ (.int .i64 x.2.kind)).setCell ⟨b, 2, none⟩ (.int .i64 x.2.valid)).setCell ⟨b, 3, none⟩ (.int .i64 x.2.uid)).setCell ⟨b, 4, none⟩ (.int .i64 x.2.next)).setCell ⟨b, 5, none⟩ (.int .i64 x.2.flags)).setCell ⟨b, 6, none⟩ (.string x.2.user)).setCell ⟨b, 7, none⟩ (.string x.2.name)).setCell ⟨b, 8, none⟩ (.string x.2.text)) b #[.int .i64 x.1, .int .i64 x.2.kind, .int .i64 x.2.valid, .int .i64 x.2.uid, .int .i64 x.2.next, .int .i64 x.2.flags, .string x.2.user, .string x.2.name, .string x.2.text, u9, u10, u11] t := a7.set 8 (.string x.2.text)
  a8
theorem TbAt.setNamed {w : World} {a n : Nat} {t : Tb} (h : TbAt w a n t) (x : Itm) : TbAt (put9 w (a + 2) x) a n ⟨x, t.next, t.adds, t.flags⟩ :=
  ⟨h.box.put9 x, h.adds.kept (put9_grown w (a + 2) x) (fun e => by have := Option.some.inj e; omega), h.flags.kept (put9_grown w (a + 2) x) (fun e => by have := Option.some.inj e; omega)⟩

set_option maxRecDepth 100000 in
set_option maxHeartbeats 2000000 in
theorem take5 (t : Tb) (x : Itm) (a n : Nat) (w : World) (h : TbAt w a n t) (h5 : x.2.kind = 5) (hu : 1 ≤ x.2.uid ∧ x.2.uid ≤ 9999) :
    Calls Tryz.prog 63 #[ptrV (a + 2), itmV x] w fun e w' => e = .returned (.tuple #[]) ∧ TbAt w' a n ⟨t.named, max t.next (x.2.uid + 1), t.adds, t.flags⟩ ∧ Kept a (a + 3) w w' := by
  have X1 := Box.new w #[.int .i64 x.1, .int .i64 x.2.kind, .int .i64 x.2.valid, .int .i64 x.2.uid, .int .i64 x.2.next, .int .i64 x.2.flags, .string x.2.user, .string x.2.name, .string x.2.text] 69
  have T1 := h.later (belNew w (.cells #[.int .i64 x.1, .int .i64 x.2.kind, .int .i64 x.2.valid, .int .i64 x.2.uid, .int .i64 x.2.next, .int .i64 x.2.flags, .string x.2.user, .string x.2.name, .string x.2.text] 69))
  have K1 := Kept.of_alloc w (.cells #[.int .i64 x.1, .int .i64 x.2.kind, .int .i64 x.2.valid, .int .i64 x.2.uid, .int .i64 x.2.next, .int .i64 x.2.flags, .string x.2.user, .string x.2.name, .string x.2.text] 69) a (a + 3)
  have n1 : a + 2 ≠ w.heap.size := by have := h.box.lt; omega
  obtain ⟨sq, K, V, U, N, FL, US, NM, TX⟩ := x
  simp only at h5 hu X1 T1 K1 ⊢
  have h5 := h5.symm
  subst h5
  obtain ⟨q0, q1, q2, q3, q4, q5, q6, q7, q8, _⟩ := X1.nine
  obtain ⟨p0, p1, p2, p3, p4, p5, p6, p7, p8, p9, p10, p11⟩ := T1.box.twelve
  have f9 := T1.box.loose 9
  have HT := Lib.hid T1
  have HK := Lib.hid K1
  have HX := Lib.hid X1
  have HN := Lib.hid n1
  clear X1 T1 K1 h n1
  unfold ptrV itmV itV
  simp only
  go_enter Tryz.func63, Tryz.ntmps63
  go_upto_region 12 with fail
  go_region
  go_wp2
  go_end0
  exact ⟨rfl, (HT.out.setNext _).drew, (HK.out.store _ _ _ (by omega) (by omega)).drew⟩

set_option maxRecDepth 100000 in
set_option maxHeartbeats 2000000 in
theorem take2 (t : Tb) (x : Itm) (a n : Nat) (w : World) (h : TbAt w a n t) (h2 : x.2.kind = 2) :
    Calls Tryz.prog 63 #[ptrV (a + 2), itmV x] w fun e w' => e = .returned (.tuple #[]) ∧ TbAt w' a n t ∧ Kept a (a + 3) w w' := by
  have X1 := Box.new w #[.int .i64 x.1, .int .i64 x.2.kind, .int .i64 x.2.valid, .int .i64 x.2.uid, .int .i64 x.2.next, .int .i64 x.2.flags, .string x.2.user, .string x.2.name, .string x.2.text] 69
  have T1 := h.later (belNew w (.cells #[.int .i64 x.1, .int .i64 x.2.kind, .int .i64 x.2.valid, .int .i64 x.2.uid, .int .i64 x.2.next, .int .i64 x.2.flags, .string x.2.user, .string x.2.name, .string x.2.text] 69))
  have K1 := Kept.of_alloc w (.cells #[.int .i64 x.1, .int .i64 x.2.kind, .int .i64 x.2.valid, .int .i64 x.2.uid, .int .i64 x.2.next, .int .i64 x.2.flags, .string x.2.user, .string x.2.name, .string x.2.text] 69) a (a + 3)
  have n1 : a + 2 ≠ w.heap.size := by have := h.box.lt; omega
  obtain ⟨sq, K, V, U, N, FL, US, NM, TX⟩ := x
  simp only at h2 X1 T1 K1 ⊢
  have h2 := h2.symm
  subst h2
  obtain ⟨q0, q1, q2, q3, q4, q5, q6, q7, q8, _⟩ := X1.nine
  obtain ⟨p0, p1, p2, p3, p4, p5, p6, p7, p8, p9, p10, p11⟩ := T1.box.twelve
  have f9 := T1.box.loose 9
  have HT := Lib.hid T1
  have HK := Lib.hid K1
  have HX := Lib.hid X1
  have HN := Lib.hid n1
  clear X1 T1 K1 h n1
  unfold ptrV itmV itV
  simp only
  go_enter Tryz.func63, Tryz.ntmps63
  go_wp2
  go_end0
  exact ⟨rfl, HT.out, HK.out⟩

set_option maxRecDepth 100000 in
set_option maxHeartbeats 2000000 in
theorem take4 (t : Tb) (x : Itm) (a n : Nat) (w : World) (h : TbAt w a n t) (h4 : x.2.kind = 4) (hu : 1 ≤ x.2.uid ∧ x.2.uid ≤ 9999) (hn : n ≤ 1000000) :
    Calls Tryz.prog 63 #[ptrV (a + 2), itmV x] w fun e w' => e = .returned (.tuple #[]) ∧ TbAt w' a (n + 1) ⟨t.named, t.next, t.adds, keepL t.flags x⟩ ∧ Kept a (a + 3) w w' := by
  have X1 := Box.new w #[.int .i64 x.1, .int .i64 x.2.kind, .int .i64 x.2.valid, .int .i64 x.2.uid, .int .i64 x.2.next, .int .i64 x.2.flags, .string x.2.user, .string x.2.name, .string x.2.text] 69
  have T1 := h.later (belNew w (.cells #[.int .i64 x.1, .int .i64 x.2.kind, .int .i64 x.2.valid, .int .i64 x.2.uid, .int .i64 x.2.next, .int .i64 x.2.flags, .string x.2.user, .string x.2.name, .string x.2.text] 69))
  have K1 := Kept.of_alloc w (.cells #[.int .i64 x.1, .int .i64 x.2.kind, .int .i64 x.2.valid, .int .i64 x.2.uid, .int .i64 x.2.next, .int .i64 x.2.flags, .string x.2.user, .string x.2.name, .string x.2.text] 69) a (a + 3)
  have n1 : a + 2 ≠ w.heap.size := by have := h.box.lt; omega
  obtain ⟨sq, K, V, U, N, FL, US, NM, TX⟩ := x
  simp only at h4 hu X1 T1 K1 ⊢
  have HKL : Hid (∀ X, MapIs iK itmV X (a + 1) n t.flags → Calls Tryz.prog 86 #[.map (some (a + 1)), .agg #[.int .i64 sq, .int .i64 K, .int .i64 V, .int .i64 U, .int .i64 N, .int .i64 FL, .string US, .string NM, .string TX]] X fun e w' => e = .returned (.tuple #[]) ∧ MapIs iK itmV w' (a + 1) (n + 1) (keepL t.flags (sq, ⟨K, V, U, N, FL, US, NM, TX⟩)) ∧ X.grownBy w' (some (a + 1))) := fun X hX => keepLatest_any t.flags (sq, ⟨K, V, U, N, FL, US, NM, TX⟩) (a + 1) n X hX hn (wf_of (by show _ ≤ U; omega) (by show U ≤ _; omega))
  have h4 := h4.symm
  subst h4
  obtain ⟨q0, q1, q2, q3, q4, q5, q6, q7, q8, _⟩ := X1.nine
  obtain ⟨p0, p1, p2, p3, p4, p5, p6, p7, p8, p9, p10, p11⟩ := T1.box.twelve
  have f9 := T1.box.loose 9
  have HT := Lib.hid T1
  have HK := Lib.hid K1
  have HX := Lib.hid X1
  have HN := Lib.hid n1
  clear X1 T1 K1 h n1
  unfold ptrV itmV itV
  simp only
  go_enter Tryz.func63, Tryz.ntmps63
  go_upto_region 10 with fail
  go_region_with (go_at_call 86; refine (HKL.out (World.drew _) (HT.out.flags.same rfl)).mono ?_; rintro e w5 ⟨rfl, hM5, hg5⟩)
  all_goals
    go_wp2
    go_end0
    exact ⟨rfl, ⟨(hg5.block _ HT.out.drew.box.lt (fun e => by have := Option.some.inj e; omega)).trans HT.out.drew.box, (HT.out.drew.adds.kept hg5 (fun e => by have := Option.some.inj e; omega)).mono (by omega), hM5⟩, HK.out.drew.trans (Kept.of_grown hg5 (fun k hk => by have := Option.some.inj hk; omega))⟩

set_option maxRecDepth 100000 in
set_option maxHeartbeats 2000000 in
theorem take3 (t : Tb) (x : Itm) (a n : Nat) (w : World) (h : TbAt w a n t) (h3 : x.2.kind = 3) (hu : 1 ≤ x.2.uid ∧ x.2.uid ≤ 9999) (hn : n ≤ 1000000) :
    Calls Tryz.prog 63 #[ptrV (a + 2), itmV x] w fun e w' => e = .returned (.tuple #[]) ∧ TbAt w' a (n + 1) ⟨t.named, max t.next (x.2.uid + 1), keepL t.adds x, t.flags⟩ ∧ Kept a (a + 3) w w' := by
  have X1 := Box.new w #[.int .i64 x.1, .int .i64 x.2.kind, .int .i64 x.2.valid, .int .i64 x.2.uid, .int .i64 x.2.next, .int .i64 x.2.flags, .string x.2.user, .string x.2.name, .string x.2.text] 69
  have T1 := h.later (belNew w (.cells #[.int .i64 x.1, .int .i64 x.2.kind, .int .i64 x.2.valid, .int .i64 x.2.uid, .int .i64 x.2.next, .int .i64 x.2.flags, .string x.2.user, .string x.2.name, .string x.2.text] 69))
  have K1 := Kept.of_alloc w (.cells #[.int .i64 x.1, .int .i64 x.2.kind, .int .i64 x.2.valid, .int .i64 x.2.uid, .int .i64 x.2.next, .int .i64 x.2.flags, .string x.2.user, .string x.2.name, .string x.2.text] 69) a (a + 3)
  have n1 : a + 2 ≠ w.heap.size := by have := h.box.lt; omega
  obtain ⟨sq, K, V, U, N, FL, US, NM, TX⟩ := x
  simp only at h3 hu X1 T1 K1 ⊢
  have HKL : Hid (∀ X, MapIs iK itmV X a n t.adds → Calls Tryz.prog 86 #[.map (some a), .agg #[.int .i64 sq, .int .i64 K, .int .i64 V, .int .i64 U, .int .i64 N, .int .i64 FL, .string US, .string NM, .string TX]] X fun e w' => e = .returned (.tuple #[]) ∧ MapIs iK itmV w' a (n + 1) (keepL t.adds (sq, ⟨K, V, U, N, FL, US, NM, TX⟩)) ∧ X.grownBy w' (some a)) := fun X hX => keepLatest_any t.adds (sq, ⟨K, V, U, N, FL, US, NM, TX⟩) a n X hX hn (wf_of (by show _ ≤ U; omega) (by show U ≤ _; omega))
  have h3 := h3.symm
  subst h3
  obtain ⟨q0, q1, q2, q3, q4, q5, q6, q7, q8, _⟩ := X1.nine
  obtain ⟨p0, p1, p2, p3, p4, p5, p6, p7, p8, p9, p10, p11⟩ := T1.box.twelve
  have f9 := T1.box.loose 9
  have HT := Lib.hid T1
  have HK := Lib.hid K1
  have HX := Lib.hid X1
  have HN := Lib.hid n1
  clear X1 T1 K1 h n1
  unfold ptrV itmV itV
  simp only
  go_enter Tryz.func63, Tryz.ntmps63
  go_upto_region 7 with fail
  go_region
  have T2 := (HT.out.setNext (max t.next (U + 1))).drew
  have K2 := (HK.out.store (a + 2) 9 (.int .i64 (max t.next (U + 1))) (by omega) (by omega)).drew
  have X2 := HX.out.other (g := a + 2) (fun e => HN.out e.symm) 9 (.int .i64 (max t.next (U + 1)))
  clear q0 q1 q2 q3 q4 q5 q6 q7 q8 p0 p1 p2 p3 p4 p5 p6 p7 p8 p9 p10 p11 f9 HT HK HX
  go_upto_region 8 with fail
  generalize hW2 : (World.setCell _ ⟨a + 2, 9, none⟩ (.int .i64 (max t.next (U + 1)))).drew = W2 at T2 K2 ⊢
  have X2' : Box W2 w.heap.size #[.int .i64 sq, .int .i64 3, .int .i64 V, .int .i64 U, .int .i64 N, .int .i64 FL, .string US, .string NM, .string TX] 69 := by rw [← hW2]; exact X2
  clear hW2 X2
  obtain ⟨q0, q1, q2, q3, q4, q5, q6, q7, q8, _⟩ := X2'.nine
  obtain ⟨p0, p1, p2, p3, p4, p5, p6, p7, p8, p9, p10, p11⟩ := T2.box.twelve
  have HT := Lib.hid T2
  have HK := Lib.hid K2
  clear T2 K2 X2'
  go_region_with (go_at_call 86; refine (HKL.out (World.drew _) (HT.out.adds.same rfl)).mono ?_; rintro e w5 ⟨rfl, hM5, hg5⟩)
  all_goals
    go_wp2
    go_end0
    exact ⟨rfl, ⟨(hg5.block _ HT.out.drew.box.lt (fun e => by have := Option.some.inj e; omega)).trans HT.out.drew.box, hM5, (HT.out.drew.flags.kept hg5 (fun e => by have := Option.some.inj e; omega)).mono (by omega)⟩, HK.out.drew.trans (Kept.of_grown hg5 (fun k hk => by have := Option.some.inj hk; omega))⟩

set_option maxRecDepth 100000 in
set_option maxHeartbeats 4000000 in
theorem take1 (t : Tb) (x : Itm) (a n : Nat) (w : World) (h : TbAt w a n t) (h1 : x.2.kind = 1) :
    Calls Tryz.prog 63 #[ptrV (a + 2), itmV x] w fun e w' => e = .returned (.tuple #[]) ∧ TbAt w' a n ⟨if aheadB (fun y => y.2.next) x t.named then x else t.named, max t.next x.2.next, t.adds, t.flags⟩ ∧ Kept a (a + 3) w w' := by
  obtain ⟨D, hD⟩ : ∃ D, aheadB (fun y => y.2.next) x t.named = D := ⟨_, rfl⟩
  have HD := Lib.hid hD
  rw [hD]
  clear hD
  have X1 := Box.new w #[.int .i64 x.1, .int .i64 x.2.kind, .int .i64 x.2.valid, .int .i64 x.2.uid, .int .i64 x.2.next, .int .i64 x.2.flags, .string x.2.user, .string x.2.name, .string x.2.text] 69
  have T1 := h.later (belNew w (.cells #[.int .i64 x.1, .int .i64 x.2.kind, .int .i64 x.2.valid, .int .i64 x.2.uid, .int .i64 x.2.next, .int .i64 x.2.flags, .string x.2.user, .string x.2.name, .string x.2.text] 69))
  have K1 := Kept.of_alloc w (.cells #[.int .i64 x.1, .int .i64 x.2.kind, .int .i64 x.2.valid, .int .i64 x.2.uid, .int .i64 x.2.next, .int .i64 x.2.flags, .string x.2.user, .string x.2.name, .string x.2.text] 69) a (a + 3)
  have n1 : a + 2 ≠ w.heap.size := by have := h.box.lt; omega
  obtain ⟨sq, K, V, U, N, FL, US, NM, TX⟩ := x
  simp only at h1 HD X1 T1 K1 ⊢
  have HBN : Hid (∀ X, Calls Tryz.prog 85 #[.agg #[.int .i64 sq, .int .i64 K, .int .i64 V, .int .i64 U, .int .i64 N, .int .i64 FL, .string US, .string NM, .string TX], .agg #[.int .i64 t.named.1, .int .i64 t.named.2.kind, .int .i64 t.named.2.valid, .int .i64 t.named.2.uid, .int .i64 t.named.2.next, .int .i64 t.named.2.flags, .string t.named.2.user, .string t.named.2.name, .string t.named.2.text]] X fun e w' => e = .returned (.int .i64 (nsC (sq, ⟨K, V, U, N, FL, US, NM, TX⟩) t.named)) ∧ Below X.heap.size X w') := fun X => byNextAndSeq_any (sq, ⟨K, V, U, N, FL, US, NM, TX⟩) t.named X
  have HNS := Lib.hid (nsC_pos (sq, ⟨K, V, U, N, FL, US, NM, TX⟩) t.named)
  have h1 := h1.symm
  subst h1
  obtain ⟨q0, q1, q2, q3, q4, q5, q6, q7, q8, _⟩ := X1.nine
  obtain ⟨p0, p1, p2, p3, p4, p5, p6, p7, p8, p9, p10, p11⟩ := T1.box.twelve
  have f9 := T1.box.loose 9
  have HT := Lib.hid T1
  have HK := Lib.hid K1
  have HX := Lib.hid X1
  have HN := Lib.hid n1
  clear X1 T1 K1 h n1
  unfold ptrV itmV itV
  simp only
  go_enter Tryz.func63, Tryz.ntmps63
  go_upto_region 3 with fail
  go_region
  have T2 := (HT.out.setNext (max t.next N)).drew
  have K2 := (HK.out.store (a + 2) 9 (.int .i64 (max t.next N)) (by omega) (by omega)).drew
  have X2 := HX.out.other (g := a + 2) (fun e => HN.out e.symm) 9 (.int .i64 (max t.next N))
  clear q0 q1 q2 q3 q4 q5 q6 q7 q8 p0 p1 p2 p3 p4 p5 p6 p7 p8 p9 p10 p11 f9 HT HK HX
  go_upto_region 4 with fail
  generalize hW2 : (World.setCell _ ⟨a + 2, 9, none⟩ (.int .i64 (max t.next N))).drew = W2 at T2 K2 ⊢
  have X2' : Box W2 w.heap.size #[.int .i64 sq, .int .i64 1, .int .i64 V, .int .i64 U, .int .i64 N, .int .i64 FL, .string US, .string NM, .string TX] 69 := by rw [← hW2]; exact X2
  clear hW2 X2
  obtain ⟨q0, q1, q2, q3, q4, q5, q6, q7, q8, _⟩ := X2'.nine
  obtain ⟨p0, p1, p2, p3, p4, p5, p6, p7, p8, p9, p10, p11⟩ := T2.box.twelve
  have HT := Lib.hid T2
  have HK := Lib.hid K2
  have HX := Lib.hid X2'
  clear T2 K2 X2'
  generalize hC : nsC (sq, ⟨1, V, U, N, FL, US, NM, TX⟩) t.named = C at HBN HNS
  clear hC
  go_cut [26] (fun c wx => c = .bool D ∧ Below W2.heap.size W2 wx)
  case first =>
    go_region_with (go_at_call 85; refine (HBN.out (World.drew _)).mono ?_; rintro e w5 ⟨rfl, hb5⟩)
    all_goals
      have hCD : decide (0 < C) = D := by
        rw [← HD.out]
        by_cases c : 0 < C
        · rw [decide_eq_true c]; exact (HNS.out.1 c).symm
        · rw [decide_eq_false c]
          cases e : aheadB (fun y => y.2.next) (sq, ⟨1, V, U, N, FL, US, NM, TX⟩) t.named with
          | false => rfl
          | true => exact absurd (HNS.out.2 e) c
      go_wp2_with fail
      go_meet
      exact ⟨by rw [← hCD], (show Below W2.heap.size W2 W2.drew from (Below.refl _ _).drew).trans hb5⟩
  case rest =>
    obtain ⟨rfl, hb5⟩ := hcut
    have T5 := HT.out.later hb5
    have K5 := HK.out.trans (Kept.of_below hb5 a (a + 3))
    have X5 := HX.out.later hb5
    clear q0 q1 q2 q3 q4 q5 q6 q7 q8 p0 p1 p2 p3 p4 p5 p6 p7 p8 p9 p10 p11 HT HK HX hb5
    obtain ⟨q0, q1, q2, q3, q4, q5, q6, q7, q8, _⟩ := X5.nine
    obtain ⟨p0, p1, p2, p3, p4, p5, p6, p7, p8, p9, p10, p11⟩ := T5.box.twelve
    have f0 := T5.box.loose 0
    have f1 := T5.box.loose 1
    have f2 := T5.box.loose 2
    have f3 := T5.box.loose 3
    have f4 := T5.box.loose 4
    have f5 := T5.box.loose 5
    have f6 := T5.box.loose 6
    have f7 := T5.box.loose 7
    have f8 := T5.box.loose 8
    have HT := Lib.hid T5
    have HK := Lib.hid K5
    clear T5 K5 X5
    cases D with
    | true =>
      go_wp2
      go_end0
      exact ⟨rfl, HT.out.setNamed (sq, ⟨1, V, U, N, FL, US, NM, TX⟩), HK.out.trans (Kept.of_grown (put9_grown _ (a + 2) (sq, ⟨1, V, U, N, FL, US, NM, TX⟩)) (fun k hk => by have := Option.some.inj hk; omega))⟩
    | false =>
      go_wp2
      go_end0
      exact ⟨rfl, HT.out, HK.out⟩

end Go.Proofs.YtgcnebepklelpaaGreat

/- The records of all boxes gathered. -/
namespace Go.Proofs.YtgcnebepklelpaaGreat
open Go.RowKit

theorem ok_uid {x : Itm} (h : x.2.ok) (hk : 3 ≤ x.2.kind) : 1 ≤ x.2.uid ∧ x.2.uid ≤ 9999 := by
  have h1 := h.2.2.2.1
  rw [if_pos hk] at h1
  exact h1
theorem take_any (t : Tb) (x : Itm) (a n : Nat) (w : World) (h : TbAt w a n t) (hx : itOk x) (hn : n ≤ 1000000) :
    Calls Tryz.prog 63 #[ptrV (a + 2), itmV x] w fun e w' => e = .returned (.tuple #[]) ∧ TbAt w' a (n + 1) (takeT t x) ∧ Kept a (a + 3) w w' := by
  have hk := hx.2.1
  unfold takeT
  by_cases h1 : x.2.kind = 1
  · rw [if_pos h1]
    exact (take1 t x a n w h h1).mono fun e w' ⟨e1, e2, e3⟩ => ⟨e1, e2.mono (by omega), e3⟩
  rw [if_neg h1]
  by_cases h3 : x.2.kind = 3
  · rw [if_pos h3]
    exact take3 t x a n w h h3 (ok_uid hx.2 (by omega)) hn
  rw [if_neg h3]
  by_cases h4 : x.2.kind = 4
  · rw [if_pos h4]
    exact take4 t x a n w h h4 (ok_uid hx.2 (by omega)) hn
  rw [if_neg h4]
  by_cases h5 : x.2.kind = 5
  · rw [if_pos h5]
    exact (take5 t x a n w h h5 (ok_uid hx.2 (by omega))).mono fun e w' ⟨e1, e2, e3⟩ => ⟨e1, e2.mono (by omega), e3⟩
  rw [if_neg h5]
  exact (take2 t x a n w h (by omega)).mono fun e w' ⟨e1, e2, e3⟩ => ⟨e1, e2.mono (by omega), e3⟩

structure ToldO (b n : Nat) (w : World) (T : Int → Option Tb) (P : Int → Option Nat) : Prop where
  map : MapIs iK ptrV w b n (fun v => (P v).map (fun a => a + 2))
  dom : ∀ v, (P v).isSome = (T v).isSome
  at' : ∀ v a t, P v = some a → T v = some t → TbAt w a n t
  low : ∀ v a, P v = some a → b < a
  apart : ∀ v v' a a', P v = some a → P v' = some a' → v ≠ v' → a + 3 ≤ a' ∨ a' + 3 ≤ a
theorem ToldO.later {b n : Nat} {w w' : World} {T : Int → Option Tb} {P : Int → Option Nat} (h : ToldO b n w T P) (hb : Below w.heap.size w w') : ToldO b n w' T P :=
  ⟨h.map.later hb, h.dom, fun v a t h1 h2 => (h.at' v a t h1 h2).later hb, h.low, h.apart⟩
theorem ToldO.get {b n : Nat} {w : World} {T : Int → Option Tb} {P : Int → Option Nat} (h : ToldO b n w T P) {v : Int} {a : Nat} (hp : P v = some a) : ∃ t, T v = some t := by
  have := h.dom v
  rw [hp] at this
  cases e : T v with
  | none => rw [e] at this; cases this
  | some t => exact ⟨t, rfl⟩
theorem ToldO.gone {b n : Nat} {w : World} {T : Int → Option Tb} {P : Int → Option Nat} (h : ToldO b n w T P) {v : Int} (hp : P v = none) : T v = none := by
  have := h.dom v
  rw [hp] at this
  cases e : T v with
  | none => rfl
  | some t => rw [e] at this; cases this
theorem ToldO.mono {b n n' : Nat} {w : World} {T : Int → Option Tb} {P : Int → Option Nat} (h : ToldO b n w T P) (hn : n ≤ n') : ToldO b n' w T P :=
  ⟨h.map.mono hn, h.dom, fun v a t h1 h2 => (h.at' v a t h1 h2).mono hn, h.low, h.apart⟩
theorem ToldO.turn {b n n' : Nat} {w w' : World} {T : Int → Option Tb} {P : Int → Option Nat} (h : ToldO b n w T P) {v : Int} {a : Nat} (hp : P v = some a) (t' : Tb) (hn : n ≤ n') (ht : TbAt w' a n' t') (hk : Kept a (a + 3) w w') :
    ToldO b n' w' (fun u => if u = v then some t' else T u) P := by
  refine ⟨(h.map.same (hk.block b h.map.lt (.inl (h.low v a hp)))).mono hn, fun u => ?_, fun u c t h1 h2 => ?_, h.low, h.apart⟩
  · by_cases e : u = v
    · subst e; simp [hp]
    · simp [e, h.dom u]
  · by_cases e : u = v
    · subst e
      rw [hp] at h1
      cases h1
      simp at h2
      cases h2
      exact ht
    · simp [e] at h2
      have q := h.at' u c t h1 h2
      have l0 := q.adds.lt
      have l1 := q.flags.lt
      have l2 := q.box.lt
      rcases h.apart u v c a h1 hp e with d | d
      · exact (q.same (hk.block c l0 (by omega)) (hk.block (c + 1) l1 (by omega)) (hk.block (c + 2) l2 (by omega))).mono hn
      · exact (q.same (hk.block c l0 (by omega)) (hk.block (c + 1) l1 (by omega)) (hk.block (c + 2) l2 (by omega))).mono hn
theorem ToldO.add {b n n' : Nat} {w w' : World} {T : Int → Option Tb} {P : Int → Option Nat} (h : ToldO b n w T P) {v : Int} (hp : P v = none) (a : Nat) (t' : Tb) (hn : n ≤ n')
    (hm : MapIs iK ptrV w' b n' (fun u => ((fun u => if u = v then some a else P u) u).map (fun c => c + 2))) (ht : TbAt w' a n' t') (hs : w.heap.size ≤ a) (hk : ∀ k, k < w.heap.size → k ≠ b → w'.heap[k]? = w.heap[k]?) :
    ToldO b n' w' (fun u => if u = v then some t' else T u) (fun u => if u = v then some a else P u) := by
  have hlt : ∀ {u : Int} {c : Nat}, P u = some c → c + 2 < w.heap.size ∧ b < c := fun {u c} hc => by
    obtain ⟨t, e⟩ := h.get hc
    exact ⟨(h.at' u c t hc e).box.lt, h.low u c hc⟩
  refine ⟨hm, fun u => ?_, fun u c t h1 h2 => ?_, fun u c h1 => ?_, fun u u' c c' h1 h2 hne => ?_⟩
  · by_cases e : u = v
    · simp [e]
    · simp [e, h.dom u]
  · by_cases e : u = v
    · subst e
      simp at h1 h2
      subst h1 h2
      exact ht
    · simp [e] at h1 h2
      have l := hlt h1
      exact ((h.at' u c t h1 h2).same (hk c (by omega) (by omega)) (hk (c + 1) (by omega) (by omega)) (hk (c + 2) (by omega) (by omega))).mono hn
  · by_cases e : u = v
    · simp [e] at h1
      have := h.map.lt
      omega
    · simp [e] at h1
      exact h.low u c h1
  · by_cases e : u = v
    · simp [e] at h1
      by_cases e' : u' = v
      · exact absurd (e.trans e'.symm) hne
      · simp [e'] at h2
        have := hlt h2
        omega
    · simp [e] at h1
      by_cases e' : u' = v
      · simp [e'] at h2
        have := hlt h1
        omega
      · simp [e'] at h2
        exact h.apart u u' c c' h1 h2 hne
theorem ToldO.congr {b n : Nat} {w : World} {T T' : Int → Option Tb} {P : Int → Option Nat} (h : ToldO b n w T P) (e : ∀ v, T v = T' v) : ToldO b n w T' P := by
  have : T = T' := funext e
  rw [← this]; exact h

set_option maxRecDepth 100000 in
theorem zero_ptr (w : World) : (zeroValue 86).run Tryz.prog w = .ok (.pointer none) w := by kernel_rfl

set_option maxRecDepth 100000 in
set_option maxHeartbeats 4000000 in
theorem toldBoxes_any (l : List Itm) (v : Value) (w : World) (h : Rows' itE w v l) (hok : ∀ x ∈ l, itOk x) (hl : l.length ≤ 1000) :
    Calls Tryz.prog 39 #[v] w fun e w' => ∃ (b : Nat) (P : Int → Option Nat), e = .returned (.map (some b)) ∧ w.heap.size ≤ b ∧ ToldO b l.length w' (toldT l) P ∧ Below w.heap.size w w' := by
  obtain ⟨ad, cap, rfl, hrow⟩ := h.items
  have HR := Lib.hid hrow
  have HOK := Lib.hid hok
  clear h hrow hok
  have hmm := @run_makeMap Tryz.prog
  have M0 : ToldO w.heap.size 0 (w.alloc (.map #[] 0)) (toldT (l.take 0)) (fun _ => none) := by
    refine ⟨MapIs.made _ _ _, fun u => ?_, fun u a t h1 => (by cases h1), fun u a h1 => (by cases h1), fun u u' a a' h1 => (by cases h1)⟩
    rw [List.take_zero, toldT_nil]; rfl
  have b0 := belNew w (.map #[] 0)
  go_enter Tryz.func39, Tryz.ntmps39
  go_wp2
  generalize w.alloc (.map #[] 0) = w1 at M0 b0 ⊢
  obtain ⟨g, hg⟩ : ∃ g, w.heap.size = g := ⟨_, rfl⟩
  rw [hg] at M0
  have hgle : Hid (w.heap.size ≤ g) := show _ ≤ _ by omega
  rw [hg]
  clear hg
  go_loopw [11] (fun iv wr => ∃ (i : Nat) (P : Int → Option Nat), i ≤ l.length ∧ iv = .int .i64 (i : Int) ∧ ToldO g i wr (toldT (l.take i)) P ∧ Below w.heap.size w wr) (fun iv _ => l.length - (intOf iv).toNat)
  case atStart => exact ⟨0, _, by omega, rfl, M0, b0⟩
  case round =>
    clear M0 b0
    obtain ⟨i, P, hi, rfl, hT, hb⟩ := hrel
    have HT := Lib.hid hT
    clear hT
    by_cases hlt : i < l.length
    · obtain ⟨x, hx⟩ : ∃ x, l[i]? = some x := ⟨_, List.getElem?_eq_getElem hlt⟩
      obtain ⟨ga, oa, rfl, a0, a1, a2, a3, a4, a5, a6, a7, a8⟩ := HR.out _ hb i _ hx
      have hxo := HOK.out x (List.mem_of_getElem? hx)
      have HST : Hid (∀ v, toldT (l.take (i + 1)) v = if v = x.2.valid then some (takeT ((toldT (l.take i) v).getD Tb.nil) x) else toldT (l.take i) v) := fun v => by
        rw [List.take_add_one, hx]; exact toldT_step hxo.1.1 hxo.2 v
      have hwf : iK.ok x.2.valid := wf_of (by have := hxo.2.2.1; omega) (by have := hxo.2.2.1; omega)
      have HXO := Lib.hid hxo
      have HWF := Lib.hid hwf
      clear hx hxo hwf
      have hi0 : (0 : Int) ≤ (i : Int) := by omega
      have hi1 : (i : Int) < (l.length : Int) := by omega
      have XB := Box.new wr #[.int .i64 x.1, .int .i64 x.2.kind, .int .i64 x.2.valid, .int .i64 x.2.uid, .int .i64 x.2.next, .int .i64 x.2.flags, .string x.2.user, .string x.2.name, .string x.2.text] 69
      have kA := belNew wr (.cells #[.int .i64 x.1, .int .i64 x.2.kind, .int .i64 x.2.valid, .int .i64 x.2.uid, .int .i64 x.2.next, .int .i64 x.2.flags, .string x.2.user, .string x.2.name, .string x.2.text] 69)
      have TA := HT.out.later kA
      have hbA := hb.trans (kA.mono hb.size)
      go_upto_region 5 with fail
      clear a0 a1 a2 a3 a4 a5 a6 a7 a8
      have hszA : wr.heap.size < (wr.alloc (.cells #[.int .i64 x.1, .int .i64 x.2.kind, .int .i64 x.2.valid, .int .i64 x.2.uid, .int .i64 x.2.next, .int .i64 x.2.flags, .string x.2.user, .string x.2.name, .string x.2.text] 69)).heap.size := by simp
      generalize wr.alloc (.cells #[.int .i64 x.1, .int .i64 x.2.kind, .int .i64 x.2.valid, .int .i64 x.2.uid, .int .i64 x.2.next, .int .i64 x.2.flags, .string x.2.user, .string x.2.name, .string x.2.text] 69) = wA at XB TA hbA hszA ⊢
      generalize wr.heap.size = gx at XB hszA ⊢
      clear hb kA HT
      obtain ⟨q0, q1, q2, q3, q4, q5, q6, q7, q8, _⟩ := XB.nine
      have HTA := Lib.hid TA
      have HXB := Lib.hid XB
      clear TA XB
      cases hp : P x.2.valid with
      | some a =>
        obtain ⟨t, ht⟩ := HTA.out.get hp
        have hlk := HTA.out.map.look_there (t := 83) Tryz.underlying83 (zero_ptr wA) HWF.out (show (P x.2.valid).map (fun a => a + 2) = some (a + 2) by rw [hp]; rfl) true
        have hlk : (Instr.lookup 83 (.map (some g)) (.int .i64 x.2.valid) true).run Tryz.prog wA = .ok (.tuple #[.pointer (some ⟨a + 2, 0, none⟩), .bool true]) wA := hlk
        have HP := Lib.hid hp
        have HTT := Lib.hid ht
        have HTK := Lib.hid (take_any t x a i wA (HTA.out.at' _ _ _ hp ht) HXO.out (by omega))
        unfold ptrV itmV itV at HTK
        clear hp ht
        go_wp2_with (go_at_call 63; refine HTK.out.mono ?_; rintro e w5 ⟨rfl, hT5, hK5⟩)
        go_roundw
        case rel =>
          refine ⟨i + 1, P, by omega, by go_num, (HTA.out.turn HP.out _ (by omega) hT5 hK5).congr (fun u => ?_), hK5.below hbA (Nat.le_trans hgle.out (Nat.le_of_lt (HTA.out.low _ _ HP.out))) hbA.size⟩
          · rw [HST.out u]
            by_cases e : u = x.2.valid
            · subst e; simp [HTT.out]
            · simp [e]
        case measure => simp [intOf]; omega
      | none =>
        have hT0 := HTA.out.gone hp
        have hlk := HTA.out.map.look_gone (t := 83) Tryz.underlying83 (zero_ptr wA) HWF.out (show (P x.2.valid).map (fun a => a + 2) = none by rw [hp]; rfl) true
        have hlk : (Instr.lookup 83 (.map (some g)) (.int .i64 x.2.valid) true).run Tryz.prog wA = .ok (.tuple #[.pointer none, .bool false]) wA := hlk
        have kB := belNew wA (.map #[] 0)
        have MA : MapIs iK itmV (wA.alloc (.map #[] 0)) wA.heap.size 0 (fun _ => none) := MapIs.made _ _ _
        have eB : (wA.alloc (.map #[] 0)).heap.size = wA.heap.size + 1 := by simp
        have kC := belNew (wA.alloc (.map #[] 0)) (.map #[] 0)
        have MB : MapIs iK itmV ((wA.alloc (.map #[] 0)).alloc (.map #[] 0)) (wA.heap.size + 1) 0 (fun _ => none) := by
          have := MapIs.made iK itmV (wA.alloc (.map #[] 0))
          rwa [eB] at this
        have eC : ((wA.alloc (.map #[] 0)).alloc (.map #[] 0)).heap.size = wA.heap.size + 2 := by simp
        have kD := belNew ((wA.alloc (.map #[] 0)).alloc (.map #[] 0)) (.cells (tbC wA.heap.size Tb.nil) 89)
        have BD : Box (((wA.alloc (.map #[] 0)).alloc (.map #[] 0)).alloc (.cells (tbC wA.heap.size Tb.nil) 89)) (wA.heap.size + 2) (tbC wA.heap.size Tb.nil) 89 := by
          have := Box.new ((wA.alloc (.map #[] 0)).alloc (.map #[] 0)) (tbC wA.heap.size Tb.nil) 89
          rwa [eC] at this
        have TD : TbAt (((wA.alloc (.map #[] 0)).alloc (.map #[] 0)).alloc (.cells (tbC wA.heap.size Tb.nil) 89)) wA.heap.size 0 Tb.nil := ⟨BD, (MA.later kC).later kD, MB.later kD⟩
        have jD : Below wA.heap.size wA (((wA.alloc (.map #[] 0)).alloc (.map #[] 0)).alloc (.cells (tbC wA.heap.size Tb.nil) 89)) := (kB.trans (kC.mono kB.size)).trans (kD.mono (by rw [eC]; omega))
        have HP := Lib.hid hp
        have HT0 := Lib.hid hT0
        have HTD := Lib.hid TD
        have HJD := Lib.hid jD
        clear hp hT0 MA MB BD TD jD kB kC kD eB eC
        go_upto_region 8 with fail
        generalize hwD : (((wA.alloc (.map #[] 0)).alloc (.map #[] 0)).alloc (.cells #[.int .i64 0, .int .i64 0, .int .i64 0, .int .i64 0, .int .i64 0, .int .i64 0, .string ⟨#[]⟩, .string ⟨#[]⟩, .string ⟨#[]⟩, .int .i64 0, .map (some wA.heap.size), .map (some (wA.heap.size + 1))] 89)) = wD
        have TD : TbAt wD wA.heap.size 0 Tb.nil := by rw [← hwD]; exact HTD.out
        have jD : Below wA.heap.size wA wD := by rw [← hwD]; exact HJD.out
        clear hwD HTD HJD q0 q1 q2 q3 q4 q5 q6 q7 q8 hlk
        obtain ⟨q0, q1, q2, q3, q4, q5, q6, q7, q8, _⟩ := (HXB.out.later jD).nine
        have MD := HTA.out.map.later jD
        have hga : g < wA.heap.size := HTA.out.map.lt
        have HTD := Lib.hid TD
        have HJD := Lib.hid jD
        have HMD := Lib.hid MD
        have HGA := Lib.hid hga
        clear TD jD MD hga
        have HTK : Hid (∀ X, wD.grownBy X (some g) → Calls Tryz.prog 63 #[.pointer (some ⟨wA.heap.size + 1 + 1, 0, none⟩), .agg #[.int .i64 x.1, .int .i64 x.2.kind, .int .i64 x.2.valid, .int .i64 x.2.uid, .int .i64 x.2.next, .int .i64 x.2.flags, .string x.2.user, .string x.2.name, .string x.2.text]] X fun e w' => e = .returned (.tuple #[]) ∧ TbAt w' wA.heap.size (i + 1) (takeT Tb.nil x) ∧ Kept wA.heap.size (wA.heap.size + 3) X w') := fun X hX => take_any Tb.nil x wA.heap.size i X ((HTD.out.kept hX (fun e => by have := Option.some.inj e; have := HGA.out; omega) (fun e => by have := Option.some.inj e; have := HGA.out; omega) (fun e => by have := Option.some.inj e; have := HGA.out; omega)).mono (by omega)) HXO.out (by omega)
        have HXG : Hid (∀ X, wD.grownBy X (some g) → Box X gx #[.int .i64 x.1, .int .i64 x.2.kind, .int .i64 x.2.valid, .int .i64 x.2.uid, .int .i64 x.2.next, .int .i64 x.2.flags, .string x.2.user, .string x.2.name, .string x.2.text] 69) := fun X hX => (hX.block gx (HXB.out.later HJD.out).lt (fun e => (HTA.out.map.notBox HXB.out) (Option.some.inj e).symm)).trans (HXB.out.later HJD.out)
        go_wp2_with (first | (at_mapUpdate; refine wpList_put rfl _ _ _ _ rfl iK ptrV ptrV_inj _ Tryz.underlying83 g i (fun v => (P v).map (fun a => a + 2)) rfl HMD.out (by unfold maxLen; omega) x.2.valid (wA.heap.size + 2) rfl rfl HWF.out ?_; intro w8 hM8 hg8 hs8; obtain ⟨y0, y1, y2, y3, y4, y5, y6, y7, y8, _⟩ := (HXG.out w8 hg8).nine) | (go_at_call 63; refine (HTK.out _ hg8).mono ?_; rintro e w5 ⟨rfl, hT5, hK5⟩))
        go_roundw
        case rel =>
          have hle : wA.heap.size ≤ wD.heap.size := HJD.out.size
          refine ⟨i + 1, (fun u => if u = x.2.valid then some wA.heap.size else P u), by omega, by go_num, (HTA.out.add HP.out wA.heap.size (takeT Tb.nil x) (by omega) ?_ hT5 (Nat.le_refl _) ?_).congr (fun u => ?_), hK5.below ((hbA.trans (HJD.out.mono hbA.size)).grown hg8 (Nat.le_trans hbA.size hle) (fun k hk => by have := Option.some.inj hk; have := hgle.out; omega)) hbA.size (Nat.le_trans hbA.size (by omega))⟩
          · refine (hM8.same (hK5.block g hM8.lt (.inl HGA.out))).congr (fun u _ => ?_)
            by_cases e : u = x.2.valid
            · simp [e]
            · simp [e]
          · intro k hk hne
            rw [hK5.block k (by omega) (.inl hk), hg8.block k (by omega) (fun e => hne (Option.some.inj e)), HJD.out.block k hk]
          · rw [HST.out u]
            by_cases e : u = x.2.valid
            · subst e; simp [HT0.out]
            · simp [e]
        case measure => simp [intOf]; omega
    · go_wp2
      go_ret
      have e : i = l.length := by omega
      subst e
      have h1 := HT.out
      rw [List.take_length] at h1
      exact ⟨g, P, rfl, hgle.out, h1, hb⟩

end Go.Proofs.YtgcnebepklelpaaGreat

/- What is gone is taken away, plainly. -/
namespace Go.Proofs.YtgcnebepklelpaaGreat
open Classical

def dropB (k : List Itm) (v : Int) : Prop := ∃ x ∈ k, x.2.kind = 2 ∧ x.2.valid = v
def goneB (k : List Itm) (v u : Int) : Prop := ∃ x ∈ k, x.2.kind = 5 ∧ x.2.valid = v ∧ x.2.uid = u
noncomputable def lessA (k : List Itm) (v : Int) (t : Tb) : Tb := ⟨t.named, t.next, fun u => if goneB k v u then none else t.adds u, t.flags⟩
noncomputable def delT (T : Int → Option Tb) (k : List Itm) (v : Int) : Option Tb := if dropB k v then none else (T v).map (lessA k v)
def lessM (u : Int) (t : Tb) : Tb := ⟨t.named, t.next, fun q => if q = u then none else t.adds q, t.flags⟩

theorem dropB_snoc {k : List Itm} {x : Itm} {v : Int} : dropB (k ++ [x]) v ↔ dropB k v ∨ (x.2.kind = 2 ∧ x.2.valid = v) := by
  unfold dropB
  constructor
  · rintro ⟨y, hy, h⟩
    rcases List.mem_append.1 hy with h1 | h1
    · exact .inl ⟨y, h1, h⟩
    · simp at h1; subst h1; exact .inr h
  · rintro (⟨y, hy, h⟩ | h)
    · exact ⟨y, List.mem_append_left _ hy, h⟩
    · exact ⟨x, by simp, h⟩
theorem goneB_snoc {k : List Itm} {x : Itm} {v u : Int} : goneB (k ++ [x]) v u ↔ goneB k v u ∨ (x.2.kind = 5 ∧ x.2.valid = v ∧ x.2.uid = u) := by
  unfold goneB
  constructor
  · rintro ⟨y, hy, h⟩
    rcases List.mem_append.1 hy with h1 | h1
    · exact .inl ⟨y, h1, h⟩
    · simp at h1; subst h1; exact .inr h
  · rintro (⟨y, hy, h⟩ | h)
    · exact ⟨y, List.mem_append_left _ hy, h⟩
    · exact ⟨x, by simp, h⟩
theorem lessA_snoc {k : List Itm} {x : Itm} {v : Int} (h : ¬ (x.2.kind = 5 ∧ x.2.valid = v)) : lessA (k ++ [x]) v = lessA k v := by
  funext t
  unfold lessA
  congr 1
  funext u
  have e : goneB (k ++ [x]) v u ↔ goneB k v u := by
    rw [goneB_snoc]
    exact ⟨fun c => c.elim id (fun c => absurd ⟨c.1, c.2.1⟩ h), .inl⟩
  by_cases c : goneB k v u
  · rw [if_pos c, if_pos (e.2 c)]
  · rw [if_neg c, if_neg (fun d => c (e.1 d))]
theorem lessA_more {k : List Itm} {x : Itm} (h : x.2.kind = 5) (t : Tb) : lessA (k ++ [x]) x.2.valid t = lessM x.2.uid (lessA k x.2.valid t) := by
  unfold lessA lessM
  congr 1
  funext u
  have e := goneB_snoc (k := k) (x := x) (v := x.2.valid) (u := u)
  by_cases c : u = x.2.uid
  · rw [if_pos c, if_pos (e.2 (.inr ⟨h, rfl, c.symm⟩))]
  · rw [if_neg c]
    show _ = if goneB k x.2.valid u then none else t.adds u
    by_cases d : goneB k x.2.valid u
    · rw [if_pos d, if_pos (e.2 (.inl d))]
    · rw [if_neg d, if_neg (fun q => (e.1 q).elim d (fun q => c q.2.2.symm))]
theorem delT_nil (T : Int → Option Tb) (v : Int) : delT T [] v = T v := by
  have h1 : ¬ dropB [] v := by unfold dropB; simp
  have h2 : ∀ t, lessA [] v t = t := fun t => by
    unfold lessA
    have : (fun u => if goneB [] v u then none else t.adds u) = t.adds := by
      funext u
      rw [if_neg (by unfold goneB; simp)]
    rw [this]
  unfold delT
  rw [if_neg h1]
  cases T v with
  | none => rfl
  | some t => simp [h2]
theorem delT_drop {T : Int → Option Tb} {k : List Itm} {x : Itm} (h : x.2.kind = 2) (v : Int) : delT T (k ++ [x]) v = if v = x.2.valid then none else delT T k v := by
  unfold delT
  rw [lessA_snoc (by omega)]
  by_cases c : v = x.2.valid
  · rw [if_pos c, if_pos (dropB_snoc.2 (.inr ⟨h, c.symm⟩))]
  · rw [if_neg c]
    by_cases d : dropB k v
    · rw [if_pos d, if_pos (dropB_snoc.2 (.inl d))]
    · rw [if_neg d, if_neg (fun q => (dropB_snoc.1 q).elim d (fun q => c q.2.symm))]
theorem delT_gone {T : Int → Option Tb} {k : List Itm} {x : Itm} (h : x.2.kind = 5) (v : Int) : delT T (k ++ [x]) v = if v = x.2.valid then (delT T k v).map (lessM x.2.uid) else delT T k v := by
  have hd : dropB (k ++ [x]) v ↔ dropB k v := ⟨fun q => (dropB_snoc.1 q).elim id (fun q => by omega), fun q => dropB_snoc.2 (.inl q)⟩
  unfold delT
  by_cases c : v = x.2.valid
  · subst c
    rw [if_pos rfl]
    by_cases d : dropB k x.2.valid
    · rw [if_pos d, if_pos (hd.2 d)]; rfl
    · rw [if_neg d, if_neg (fun q => d (hd.1 q)), Option.map_map]
      congr 1
      funext t
      exact lessA_more h t
  · rw [if_neg c, lessA_snoc (fun q => c q.2.symm)]
    by_cases d : dropB k v
    · rw [if_pos d, if_pos (hd.2 d)]
    · rw [if_neg d, if_neg (fun q => d (hd.1 q))]
theorem delT_other {T : Int → Option Tb} {k : List Itm} {x : Itm} (h : x.2.kind ≠ 2) (h5 : x.2.kind ≠ 5) (v : Int) : delT T (k ++ [x]) v = delT T k v := by
  have hd : dropB (k ++ [x]) v ↔ dropB k v := ⟨fun q => (dropB_snoc.1 q).elim id (fun q => absurd q.1 h), fun q => dropB_snoc.2 (.inl q)⟩
  unfold delT
  rw [lessA_snoc (fun q => h5 q.1)]
  by_cases d : dropB k v
  · rw [if_pos d, if_pos (hd.2 d)]
  · rw [if_neg d, if_neg (fun q => d (hd.1 q))]
theorem delT_out {T : Int → Option Tb} {k : List Itm} {x : Itm} (h : delT T k x.2.valid = none) (v : Int) : delT T (k ++ [x]) v = delT T k v := by
  by_cases h2 : x.2.kind = 2
  · rw [delT_drop h2]
    by_cases c : v = x.2.valid
    · subst c; rw [if_pos rfl, h]
    · rw [if_neg c]
  by_cases h5 : x.2.kind = 5
  · rw [delT_gone h5]
    by_cases c : v = x.2.valid
    · subst c; rw [if_pos rfl, h]; rfl
    · rw [if_neg c]
  exact delT_other h2 h5 v

end Go.Proofs.YtgcnebepklelpaaGreat

/- What is gone is taken away. -/
namespace Go.Proofs.YtgcnebepklelpaaGreat
open Go.RowKit

theorem ToldO.drop {b n : Nat} {w w' : World} {T : Int → Option Tb} {P : Int → Option Nat} (h : ToldO b n w T P) (v : Int) (hm : MapIs iK ptrV w' b n (fun u => if u = v then none else (P u).map (fun c => c + 2))) (hg : w.grownBy w' (some b)) :
    ToldO b n w' (fun u => if u = v then none else T u) (fun u => if u = v then none else P u) := by
  refine ⟨hm.congr (fun u _ => ?_), fun u => ?_, fun u a t h1 h2 => ?_, fun u a h1 => ?_, fun u u' a a' h1 h2 hne => ?_⟩
  · by_cases e : u = v
    · simp [e]
    · simp [e]
  · by_cases e : u = v
    · simp [e]
    · simp [e, h.dom u]
  · by_cases e : u = v
    · simp [e] at h1
    · simp [e] at h1 h2
      have l := h.low u a h1
      exact (h.at' u a t h1 h2).kept hg (fun q => by have := Option.some.inj q; omega) (fun q => by have := Option.some.inj q; omega) (fun q => by have := Option.some.inj q; omega)
  · by_cases e : u = v
    · simp [e] at h1
    · simp [e] at h1; exact h.low u a h1
  · by_cases e : u = v
    · simp [e] at h1
    · by_cases e' : u' = v
      · simp [e'] at h2
      · simp [e] at h1; simp [e'] at h2; exact h.apart u u' a a' h1 h2 hne

set_option maxRecDepth 100000 in
set_option maxHeartbeats 4000000 in
theorem deleteGone_any (l : List Itm) (T : Int → Option Tb) (P : Int → Option Nat) (b n : Nat) (v : Value) (w : World) (h : ToldO b n w T P) (hrow : ∀ X, Below b w X → Rows' itE X v l) (hok : ∀ x ∈ l, itOk x) (hl : l.length ≤ 1000) :
    Calls Tryz.prog 40 #[.map (some b), v] w fun e w' => e = .returned (.tuple #[]) ∧ (∃ P', ToldO b n w' (delT T l) P') ∧ Below b w w' := by
  obtain ⟨ad, cap, rfl, _⟩ := (hrow w (Below.refl _ _)).items
  have HR : Hid (∀ X, Below b w X → ∀ i x, l[i]? = some x → ∃ g off, ad = some ⟨g, off, none⟩ ∧ X.cell? ⟨g, off + i * 9, none⟩ = some (.int .i64 x.1) ∧ X.cell? ⟨g, off + i * 9 + 1, none⟩ = some (.int .i64 x.2.kind) ∧ X.cell? ⟨g, off + i * 9 + 2, none⟩ = some (.int .i64 x.2.valid) ∧ X.cell? ⟨g, off + i * 9 + 3, none⟩ = some (.int .i64 x.2.uid) ∧ X.cell? ⟨g, off + i * 9 + 4, none⟩ = some (.int .i64 x.2.next) ∧ X.cell? ⟨g, off + i * 9 + 5, none⟩ = some (.int .i64 x.2.flags) ∧ X.cell? ⟨g, off + i * 9 + 6, none⟩ = some (.string x.2.user) ∧ X.cell? ⟨g, off + i * 9 + 7, none⟩ = some (.string x.2.name) ∧ X.cell? ⟨g, off + i * 9 + 8, none⟩ = some (.string x.2.text)) := fun X hX i x hi => by
    obtain ⟨ad', cap', e, hr⟩ := (hrow X hX).items
    cases e
    exact hr X (Below.refl _ _) i x hi
  have HOK := Lib.hid hok
  clear hrow hok
  have H0 : ToldO b n w (delT T (l.take 0)) P := h.congr (fun u => by rw [List.take_zero, delT_nil])
  have hble : b < w.heap.size := h.map.lt
  clear h
  go_enter Tryz.func40, Tryz.ntmps40
  go_wp2
  go_loopw [10] (fun iv wr => ∃ (i : Nat) (P' : Int → Option Nat), i ≤ l.length ∧ iv = .int .i64 (i : Int) ∧ ToldO b n wr (delT T (l.take i)) P' ∧ Below b w wr) (fun iv _ => l.length - (intOf iv).toNat)
  case atStart => exact ⟨0, _, by omega, rfl, H0, Below.refl _ _⟩
  case round =>
    clear H0 P
    obtain ⟨i, P, hi, rfl, hT, hb⟩ := hrel
    have HT := Lib.hid hT
    clear hT
    by_cases hlt : i < l.length
    · obtain ⟨x, hx⟩ : ∃ x, l[i]? = some x := ⟨_, List.getElem?_eq_getElem hlt⟩
      obtain ⟨ga, oa, rfl, a0, a1, a2, a3, a4, a5, a6, a7, a8⟩ := HR.out _ hb i _ hx
      have hxo := HOK.out x (List.mem_of_getElem? hx)
      have HTK : Hid (l.take (i + 1) = l.take i ++ [x]) := by show _ = _; rw [List.take_add_one, hx]; rfl
      have hwf : iK.ok x.2.valid := wf_of (by have := hxo.2.2.1; omega) (by have := hxo.2.2.1; omega)
      have HXO := Lib.hid hxo
      have HWF := Lib.hid hwf
      clear hx hxo hwf
      obtain ⟨sq, K, V, U, N, FL, US, NM, TX⟩ := x
      simp only at a0 a1 a2 a3 a4 a5 a6 a7 a8 HXO HWF HTK
      have hi0 : (0 : Int) ≤ (i : Int) := by omega
      have hi1 : (i : Int) < (l.length : Int) := by omega
      have XB := Box.new wr #[.int .i64 sq, .int .i64 K, .int .i64 V, .int .i64 U, .int .i64 N, .int .i64 FL, .string US, .string NM, .string TX] 69
      have kA := belNew wr (.cells #[.int .i64 sq, .int .i64 K, .int .i64 V, .int .i64 U, .int .i64 N, .int .i64 FL, .string US, .string NM, .string TX] 69)
      have TA := HT.out.later kA
      have hbs : b ≤ wr.heap.size := Nat.le_of_lt HT.out.map.lt
      have hbA := hb.trans (kA.mono hbs)
      go_upto_region 3 with fail
      clear a0 a1 a2 a3 a4 a5 a6 a7 a8
      generalize wr.alloc (.cells #[.int .i64 sq, .int .i64 K, .int .i64 V, .int .i64 U, .int .i64 N, .int .i64 FL, .string US, .string NM, .string TX] 69) = wA at XB TA hbA ⊢
      generalize wr.heap.size = gx at XB ⊢
      clear hb kA HT hbs
      obtain ⟨q0, q1, q2, q3, q4, q5, q6, q7, q8, _⟩ := XB.nine
      have HTA := Lib.hid TA
      have HXB := Lib.hid XB
      clear TA XB
      cases hp : P V with
      | none =>
        have hT0 := HTA.out.gone hp
        have hlk := HTA.out.map.look_gone (t := 83) Tryz.underlying83 (zero_ptr wA) HWF.out (show (P V).map (fun a => a + 2) = none by rw [hp]; rfl) true
        have hlk : (Instr.lookup 83 (.map (some b)) (.int .i64 V) true).run Tryz.prog wA = .ok (.tuple #[.pointer none, .bool false]) wA := hlk
        have HT0 := Lib.hid hT0
        clear hp hT0
        go_wp2
        go_roundw
        case rel => exact ⟨i + 1, P, by omega, by go_num, HTA.out.congr (fun u => by rw [HTK.out]; exact (delT_out HT0.out u).symm), hbA⟩
        case measure => simp [intOf]; omega
      | some a =>
        obtain ⟨t, ht⟩ := HTA.out.get hp
        have hlk := HTA.out.map.look_there (t := 83) Tryz.underlying83 (zero_ptr wA) HWF.out (show (P V).map (fun a => a + 2) = some (a + 2) by rw [hp]; rfl) true
        have hlk : (Instr.lookup 83 (.map (some b)) (.int .i64 V) true).run Tryz.prog wA = .ok (.tuple #[.pointer (some ⟨a + 2, 0, none⟩), .bool true]) wA := hlk
        have HP := Lib.hid hp
        have HTT := Lib.hid ht
        have HAT := Lib.hid (HTA.out.at' _ _ _ hp ht)
        have HLO := Lib.hid (HTA.out.low _ _ hp)
        clear hp ht
        by_cases h2 : K = 2
        · have h2 := h2.symm
          subst h2
          go_wp2_with (at_delete; refine wpList_del rfl _ _ _ iK rfl ptrV _ Tryz.underlying83 b n (fun v => (P v).map (fun a => a + 2)) rfl HTA.out.map V rfl HWF.out ?_; intro w8 hM8 hg8 hs8)
          go_roundw
          case rel => exact ⟨i + 1, _, by omega, by go_num, (HTA.out.drop V hM8 hg8).congr (fun u => by rw [HTK.out, delT_drop rfl]), hbA.grown hg8 (Nat.le_of_lt HTA.out.map.lt) (fun k hk => by have := Option.some.inj hk; omega)⟩
          case measure => simp [intOf]; omega
        by_cases h5 : K = 5
        · have h5 := h5.symm
          subst h5
          have hne : a ≠ gx := HAT.out.adds.notBox HXB.out
          have r0 : ∀ X, Kept a (a + 1) wA X → X.cell? ⟨a + 2, 10, none⟩ = some (.map (some a)) := fun X hX => by
            have hB : Box X (a + 2) (tbC a t) 89 := (hX.block (a + 2) HAT.out.box.lt (by omega)).trans HAT.out.box
            exact hB.cell 10 _ rfl
          have r1 : ∀ X, Kept a (a + 1) wA X → X.cell? ⟨gx, 3, none⟩ = some (.int .i64 U) := fun X hX => by
            have hB : Box X gx #[.int .i64 sq, .int .i64 5, .int .i64 V, .int .i64 U, .int .i64 N, .int .i64 FL, .string US, .string NM, .string TX] 69 := (hX.block gx HXB.out.lt (by omega)).trans HXB.out
            exact hB.cell 3 _ rfl
          have hU : 1 ≤ U ∧ U ≤ 9999 := ok_uid HXO.out.2 (show (3 : Int) ≤ 5 by decide)
          have hwu : iK.ok U := wf_of (by omega) (by omega)
          obtain ⟨w8, hdel, hM8, hg8, hs8⟩ := (HAT.out.adds.same (w' := wA.drew) rfl).del (t := 87) Tryz.underlying87 hwu 0
          have hdel : (Builtin.delete_ #[87, 3] 0 #[.map (some a), .int .i64 U]).run Tryz.prog wA.drew = .ok (.tuple #[]) w8 := hdel
          have hK8 : Kept a (a + 1) wA w8 := (show Kept a (a + 1) wA wA.drew from (Kept.of_below (Below.refl _ _) _ _).drew).trans (Kept.of_grown hg8 (fun k hk => by have := Option.some.inj hk; omega))
          have HM8 := Lib.hid hM8
          have HK8 := Lib.hid hK8
          clear hM8 hK8 hg8 hs8 hwu hne
          go_upto_region 9 with fail
          refine wp_region_held_drew (S := fun x => Kept a (a + 1) wA x) (by kernel_rfl) ((Kept.of_below (Below.refl _ _) _ _).drew) (fun hHeld => ?_)
          refine takeL (i := 0) (v := .pointer (some ⟨a + 2, 0, none⟩)) rfl (by kernel_rfl) (by kernel_rfl) (by kernel_rfl) (fun _ _ _ h => h) (Or.inl ⟨by rfl, ?_⟩) (by assumption) ?_
          · intro x hSx; go_simp
          try simp only [Act.put, List.setIfInBounds_toArray, List.set_cons_zero, List.set_cons_succ]
          refine takeL (i := 1) (v := .pointer (some ⟨a + 2, 0, none⟩)) rfl (by kernel_rfl) (by kernel_rfl) (by kernel_rfl) (fun _ _ _ h => h) (Or.inl ⟨by rfl, ?_⟩) (by assumption) ?_
          · intro x hSx; go_simp
          try simp only [Act.put, List.setIfInBounds_toArray, List.set_cons_zero, List.set_cons_succ]
          refine takeL (i := 2) (v := .pointer (some ⟨a + 2, 10, none⟩)) rfl (by kernel_rfl) (by kernel_rfl) (by kernel_rfl) (fun _ _ _ h => h) (Or.inl ⟨by rfl, ?_⟩) (by assumption) ?_
          · intro x hSx; go_simp
          try simp only [Act.put, List.setIfInBounds_toArray, List.set_cons_zero, List.set_cons_succ]
          refine takeL (i := 3) (v := .map (some a)) rfl (by kernel_rfl) (by kernel_rfl) (by kernel_rfl) (fun _ _ _ h => h) (Or.inl ⟨by rfl, ?_⟩) (by assumption) ?_
          · intro x hSx; have q0 := r0 x hSx; go_simp
          try simp only [Act.put, List.setIfInBounds_toArray, List.set_cons_zero, List.set_cons_succ]
          refine takeL (i := 4) (v := .pointer (some ⟨gx, 1, none⟩)) rfl (by kernel_rfl) (by kernel_rfl) (by kernel_rfl) (fun _ _ _ h => h) (Or.inl ⟨by rfl, ?_⟩) (by assumption) ?_
          · intro x hSx; go_simp
          try simp only [Act.put, List.setIfInBounds_toArray, List.set_cons_zero, List.set_cons_succ]
          refine takeL (i := 5) (v := .pointer (some ⟨gx, 3, none⟩)) rfl (by kernel_rfl) (by kernel_rfl) (by kernel_rfl) (fun _ _ _ h => h) (Or.inl ⟨by rfl, ?_⟩) (by assumption) ?_
          · intro x hSx; go_simp
          try simp only [Act.put, List.setIfInBounds_toArray, List.set_cons_zero, List.set_cons_succ]
          refine takeL (i := 6) (v := .int .i64 U) rfl (by kernel_rfl) (by kernel_rfl) (by kernel_rfl) (fun _ _ _ h => h) (Or.inl ⟨by rfl, ?_⟩) (by assumption) ?_
          · intro x hSx; have q0 := r1 x hSx; go_simp
          try simp only [Act.put, List.setIfInBounds_toArray, List.set_cons_zero, List.set_cons_succ]
          refine wpAnyH_ready (rs := [7]) (by kernel_rfl) (by simp) ?_
          refine readyOne rfl (fun K' hK => ?_)
          go_simp
          refine hK.out _ _ HK8.out (fun hS2 => ?_)
          clear hK K' hHeld hS2
          try simp only [Act.put, List.setIfInBounds_toArray, List.set_cons_zero, List.set_cons_succ]
          refine wpAnyH_done (by kernel_rfl) ?_ _
          go_wp2
          go_roundw
          case rel =>
            have T8 : TbAt w8 a n (lessM U t) := ⟨(HK8.out.block (a + 2) HAT.out.box.lt (by omega)).trans HAT.out.box, HM8.out, HAT.out.flags.same (HK8.out.block (a + 1) HAT.out.flags.lt (by omega))⟩
            refine ⟨i + 1, P, by omega, by go_num, (HTA.out.turn HP.out (lessM U t) (Nat.le_refl _) T8 (HK8.out.wider (Nat.le_refl _) (by omega))).congr (fun u => ?_), HK8.out.below hbA (Nat.le_of_lt HLO.out) (Nat.le_of_lt HTA.out.map.lt)⟩
            rw [HTK.out, delT_gone rfl]
            by_cases e : u = V
            · subst e; simp [HTT.out]
            · simp [e]
          case measure => simp [intOf]; omega
        · go_wp2
          go_roundw
          case rel => exact ⟨i + 1, P, by omega, by go_num, HTA.out.congr (fun u => by rw [HTK.out]; exact (delT_other h2 h5 u).symm), hbA⟩
          case measure => simp [intOf]; omega
    · go_wp2
      go_end0
      have e : i = l.length := by omega
      subst e
      have h1 := HT.out
      rw [List.take_length] at h1
      exact ⟨rfl, ⟨P, h1⟩, hb⟩

end Go.Proofs.YtgcnebepklelpaaGreat
