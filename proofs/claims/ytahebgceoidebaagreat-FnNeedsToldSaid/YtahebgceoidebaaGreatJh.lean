/- Texts of our own, joined. -/
import Derived.Shelf.SlSortCmp.WholeK
import Derived.Shelf.SlicesG.Cmp
import Derived.Test.YtahebgceoidebaaGreatProg
import Derived.Test.YtahebgceoidebaaGreatJe
import Derived.Test.YtahebgceoidebaaGreatJg
import Derived.Deep.RegionHeld3
import Derived.Deep.QuietTactic
import Derived.BigQuiet
import Derived.WalkSmall
import Derived.Laws.EntriesVeiled
import Derived.Test.YtahebgceoidebaaGreatJa
/- The library's sort and compare at the numbers of this program. -/
namespace Go.Proofs
open Go.Shelf
def Tryz.sortBox_ren : Go.Shelf.Ren := ⟨fun | 6 => 73 | 15 => 87 | 14 => 86 | 28 => 100 | 29 => 101 | 20 => 92 | 21 => 93 | 22 => 94 | 23 => 95 | 24 => 96 | 25 => 97 | 26 => 98 | 27 => 99 | 46 => 103 | 47 => 104 | 48 => 105 | 49 => 106 | 50 => 107 | 57 => 116 | n => n, fun | 22 => 31 | 24 => 67 | 25 => 108 | 3 => 3 | 39 => 85 | 0 => 0 | 53 => 149 | 55 => 151 | 4 => 4 | 46 => 143 | 45 => 142 | 50 => 90 | 5 => 5 | 9 => 9 | 66 => 153 | 70 => 157 | 76 => 164 | 77 => 165 | n => n, fun | n => n⟩
theorem Tryz.sortBox : Go.Proofs.SlLaysF0.n6 Tryz.prog Tryz.sortBox_ren := {
  mixed := by kernel_rfl
  f6 := ⟨Tryz.f73.name, by decide, Tryz.func73.trans (congrArg some (by kernel_rfl))⟩
  f14 := ⟨Tryz.f86.name, by decide, Tryz.func86.trans (congrArg some (by kernel_rfl))⟩
  f15 := Tryz.func87.trans (congrArg some (by kernel_rfl))
  f20 := ⟨Tryz.f92.name, by decide, Tryz.func92.trans (congrArg some (by kernel_rfl))⟩
  f21 := ⟨Tryz.f93.name, by decide, Tryz.func93.trans (congrArg some (by kernel_rfl))⟩
  f22 := ⟨Tryz.f94.name, by decide, Tryz.func94.trans (congrArg some (by kernel_rfl))⟩
  f23 := ⟨Tryz.f95.name, by decide, Tryz.func95.trans (congrArg some (by kernel_rfl))⟩
  f24 := ⟨Tryz.f96.name, by decide, Tryz.func96.trans (congrArg some (by kernel_rfl))⟩
  f25 := ⟨Tryz.f97.name, by decide, Tryz.func97.trans (congrArg some (by kernel_rfl))⟩
  f26 := ⟨Tryz.f98.name, by decide, Tryz.func98.trans (congrArg some (by kernel_rfl))⟩
  f27 := ⟨Tryz.f99.name, by decide, Tryz.func99.trans (congrArg some (by kernel_rfl))⟩
  f28 := Tryz.func100.trans (congrArg some (by kernel_rfl))
  f29 := Tryz.func101.trans (congrArg some (by kernel_rfl))
  f46 := ⟨Tryz.f103.name, by decide, Tryz.func103.trans (congrArg some (by kernel_rfl))⟩
  f47 := Tryz.func104.trans (congrArg some (by kernel_rfl))
  f48 := Tryz.func105.trans (congrArg some (by kernel_rfl))
  f49 := ⟨Tryz.f106.name, by decide, Tryz.func106.trans (congrArg some (by kernel_rfl))⟩
  f50 := ⟨Tryz.f107.name, by decide, Tryz.func107.trans (congrArg some (by kernel_rfl))⟩
  f57 := ⟨Tryz.f116.name, by decide, Tryz.func116.trans (congrArg some (by kernel_rfl))⟩
  t0 := Tryz.underlying0
  a0 := Tryz.isAgg0
  z0 := Tryz.sizeOf0
  v0 := Tryz.zeroValue0
  t3 := Tryz.underlying3
  a3 := Tryz.isAgg3
  z3 := Tryz.sizeOf3
  v3 := Tryz.zeroValue3
  t4 := Tryz.underlying4
  a4 := Tryz.isAgg4
  z4 := Tryz.sizeOf4
  v4 := Tryz.zeroValue4
  t5 := Tryz.underlying5
  a5 := Tryz.isAgg5
  z5 := Tryz.sizeOf5
  v5 := Tryz.zeroValue5
  t9 := Tryz.underlying9
  a9 := Tryz.isAgg9
  z9 := Tryz.sizeOf9
  v9 := Tryz.zeroValue9
  t22 := Tryz.underlying31
  a22 := Tryz.isAgg31
  z22 := Tryz.sizeOf31
  v22 := Tryz.zeroValue31
  t25 := Tryz.underlying108
  a25 := Tryz.isAgg108
  z25 := Tryz.sizeOf108
  v25 := Tryz.zeroValue108
  t39 := Tryz.underlying85
  a39 := Tryz.isAgg85
  z39 := Tryz.sizeOf85
  v39 := Tryz.zeroValue85
  t45 := Tryz.underlying142
  a45 := Tryz.isAgg142
  z45 := Tryz.sizeOf142
  v45 := Tryz.zeroValue142
  t46 := Tryz.underlying143
  a46 := Tryz.isAgg143
  z46 := Tryz.sizeOf143
  v46 := Tryz.zeroValue143
  t50 := Tryz.underlying90
  a50 := Tryz.isAgg90
  z50 := Tryz.sizeOf90
  v50 := Tryz.zeroValue90
  t53 := Tryz.underlying149
  a53 := Tryz.isAgg149
  z53 := Tryz.sizeOf149
  v53 := Tryz.zeroValue149
  t55 := Tryz.underlying151
  a55 := Tryz.isAgg151
  z55 := Tryz.sizeOf151
  v55 := Tryz.zeroValue151
  t66 := Tryz.underlying153
  a66 := Tryz.isAgg153
  z66 := Tryz.sizeOf153
  v66 := Tryz.zeroValue153
  t70 := Tryz.underlying157
  a70 := Tryz.isAgg157
  z70 := Tryz.sizeOf157
  v70 := Tryz.zeroValue157
  t76 := Tryz.underlying164
  a76 := Tryz.isAgg164
  z76 := Tryz.sizeOf164
  v76 := Tryz.zeroValue164
  t77 := Tryz.underlying165
  a77 := Tryz.isAgg165
  z77 := Tryz.sizeOf165
  v77 := Tryz.zeroValue165 }
def Tryz.sortMail_ren : Go.Shelf.Ren := ⟨fun | 6 => 90 | 15 => 87 | 14 => 102 | 28 => 100 | 29 => 101 | 20 => 108 | 21 => 109 | 22 => 110 | 23 => 111 | 24 => 112 | 25 => 113 | 26 => 114 | 27 => 115 | 46 => 117 | 47 => 104 | 48 => 105 | 49 => 118 | 50 => 119 | 57 => 120 | n => n, fun | 22 => 64 | 24 => 69 | 25 => 140 | 3 => 3 | 39 => 85 | 0 => 0 | 53 => 149 | 55 => 151 | 4 => 4 | 46 => 143 | 45 => 142 | 50 => 90 | 5 => 5 | 9 => 9 | 66 => 153 | 70 => 157 | 76 => 164 | 77 => 165 | n => n, fun | n => n⟩
theorem Tryz.sortMail : Go.Proofs.SlLaysF0.n6 Tryz.prog Tryz.sortMail_ren := {
  mixed := by kernel_rfl
  f6 := ⟨Tryz.f90.name, by decide, Tryz.func90.trans (congrArg some (by kernel_rfl))⟩
  f14 := ⟨Tryz.f102.name, by decide, Tryz.func102.trans (congrArg some (by kernel_rfl))⟩
  f15 := Tryz.func87.trans (congrArg some (by kernel_rfl))
  f20 := ⟨Tryz.f108.name, by decide, Tryz.func108.trans (congrArg some (by kernel_rfl))⟩
  f21 := ⟨Tryz.f109.name, by decide, Tryz.func109.trans (congrArg some (by kernel_rfl))⟩
  f22 := ⟨Tryz.f110.name, by decide, Tryz.func110.trans (congrArg some (by kernel_rfl))⟩
  f23 := ⟨Tryz.f111.name, by decide, Tryz.func111.trans (congrArg some (by kernel_rfl))⟩
  f24 := ⟨Tryz.f112.name, by decide, Tryz.func112.trans (congrArg some (by kernel_rfl))⟩
  f25 := ⟨Tryz.f113.name, by decide, Tryz.func113.trans (congrArg some (by kernel_rfl))⟩
  f26 := ⟨Tryz.f114.name, by decide, Tryz.func114.trans (congrArg some (by kernel_rfl))⟩
  f27 := ⟨Tryz.f115.name, by decide, Tryz.func115.trans (congrArg some (by kernel_rfl))⟩
  f28 := Tryz.func100.trans (congrArg some (by kernel_rfl))
  f29 := Tryz.func101.trans (congrArg some (by kernel_rfl))
  f46 := ⟨Tryz.f117.name, by decide, Tryz.func117.trans (congrArg some (by kernel_rfl))⟩
  f47 := Tryz.func104.trans (congrArg some (by kernel_rfl))
  f48 := Tryz.func105.trans (congrArg some (by kernel_rfl))
  f49 := ⟨Tryz.f118.name, by decide, Tryz.func118.trans (congrArg some (by kernel_rfl))⟩
  f50 := ⟨Tryz.f119.name, by decide, Tryz.func119.trans (congrArg some (by kernel_rfl))⟩
  f57 := ⟨Tryz.f120.name, by decide, Tryz.func120.trans (congrArg some (by kernel_rfl))⟩
  t0 := Tryz.underlying0
  a0 := Tryz.isAgg0
  z0 := Tryz.sizeOf0
  v0 := Tryz.zeroValue0
  t3 := Tryz.underlying3
  a3 := Tryz.isAgg3
  z3 := Tryz.sizeOf3
  v3 := Tryz.zeroValue3
  t4 := Tryz.underlying4
  a4 := Tryz.isAgg4
  z4 := Tryz.sizeOf4
  v4 := Tryz.zeroValue4
  t5 := Tryz.underlying5
  a5 := Tryz.isAgg5
  z5 := Tryz.sizeOf5
  v5 := Tryz.zeroValue5
  t9 := Tryz.underlying9
  a9 := Tryz.isAgg9
  z9 := Tryz.sizeOf9
  v9 := Tryz.zeroValue9
  t22 := Tryz.underlying64
  a22 := Tryz.isAgg64
  z22 := Tryz.sizeOf64
  v22 := Tryz.zeroValue64
  t25 := Tryz.underlying140
  a25 := Tryz.isAgg140
  z25 := Tryz.sizeOf140
  v25 := Tryz.zeroValue140
  t39 := Tryz.underlying85
  a39 := Tryz.isAgg85
  z39 := Tryz.sizeOf85
  v39 := Tryz.zeroValue85
  t45 := Tryz.underlying142
  a45 := Tryz.isAgg142
  z45 := Tryz.sizeOf142
  v45 := Tryz.zeroValue142
  t46 := Tryz.underlying143
  a46 := Tryz.isAgg143
  z46 := Tryz.sizeOf143
  v46 := Tryz.zeroValue143
  t50 := Tryz.underlying90
  a50 := Tryz.isAgg90
  z50 := Tryz.sizeOf90
  v50 := Tryz.zeroValue90
  t53 := Tryz.underlying149
  a53 := Tryz.isAgg149
  z53 := Tryz.sizeOf149
  v53 := Tryz.zeroValue149
  t55 := Tryz.underlying151
  a55 := Tryz.isAgg151
  z55 := Tryz.sizeOf151
  v55 := Tryz.zeroValue151
  t66 := Tryz.underlying153
  a66 := Tryz.isAgg153
  z66 := Tryz.sizeOf153
  v66 := Tryz.zeroValue153
  t70 := Tryz.underlying157
  a70 := Tryz.isAgg157
  z70 := Tryz.sizeOf157
  v70 := Tryz.zeroValue157
  t76 := Tryz.underlying164
  a76 := Tryz.isAgg164
  z76 := Tryz.sizeOf164
  v76 := Tryz.zeroValue164
  t77 := Tryz.underlying165
  a77 := Tryz.isAgg165
  z77 := Tryz.sizeOf165
  v77 := Tryz.zeroValue165 }
def Tryz.cmpInt_ren : Go.Shelf.Ren := ⟨fun | 5 => 80 | 7 => 88 | n => n, fun | 22 => 3 | 3 => 3 | 4 => 4 | n => n, fun | n => n⟩
theorem Tryz.cmpInt : Go.Proofs.SlLaysC2.n5 Tryz.prog Tryz.cmpInt_ren := {
  mixed := by kernel_rfl
  f5 := ⟨Tryz.f80.name, by decide, Tryz.func80.trans (congrArg some (by kernel_rfl))⟩
  f7 := ⟨Tryz.f88.name, by decide, Tryz.func88.trans (congrArg some (by kernel_rfl))⟩
  t3 := Tryz.underlying3
  a3 := Tryz.isAgg3
  z3 := Tryz.sizeOf3
  v3 := Tryz.zeroValue3
  t4 := Tryz.underlying4
  a4 := Tryz.isAgg4
  z4 := Tryz.sizeOf4
  v4 := Tryz.zeroValue4
  t22 := Tryz.underlying3
  a22 := Tryz.isAgg3
  z22 := Tryz.sizeOf3
  v22 := Tryz.zeroValue3 }
end Go.Proofs

/- How the records of a box are gathered in memory; the latest of a mail. -/
namespace Go.Proofs.YtahebgceoidebaaGreat
open Go.RowKit

/-- An item's value. -/
def itmV (x : Itm) : Value := itV x.1 x.2
theorem itmV_inj (x y : Itm) (h : itmV x = itmV y) : x = y := by
  obtain ⟨s, a0, a1, a2, a3, a4, a5, a6, a7⟩ := x
  obtain ⟨s', b0, b1, b2, b3, b4, b5, b6, b7⟩ := y
  simp only [itmV, itV] at h
  injection h with h
  simp only [Array.mk.injEq, List.cons.injEq, Value.int.injEq, Value.string.injEq, true_and, and_true] at h
  obtain ⟨rfl, rfl, rfl, rfl, rfl, rfl, rfl, rfl, rfl⟩ := h
  rfl
/-- A pointer to a block. -/
def ptrV (g : Nat) : Value := .pointer (some ⟨g, 0, none⟩)
theorem ptrV_inj (x y : Nat) (h : ptrV x = ptrV y) : x = y := by
  unfold ptrV at h
  injection h with h
  injection h with h
  injection h

/-- The cells of what is gathered of a box: its maps stand in the blocks a and a + 1. -/
def tbC (a : Nat) (t : Tb) : Array Value := #[.int .i64 t.named.1, .int .i64 t.named.2.kind, .int .i64 t.named.2.valid, .int .i64 t.named.2.uid, .int .i64 t.named.2.next, .int .i64 t.named.2.flags, .string t.named.2.user, .string t.named.2.name, .string t.named.2.text, .int .i64 t.next, .map (some a), .map (some (a + 1))]
/-- What is gathered of a box lies in the blocks a, a + 1 and a + 2. -/
structure TbAt (w : World) (a n : Nat) (t : Tb) : Prop where
  box : Box w (a + 2) (tbC a t) 105
  adds : MapIs iK itmV w a n t.adds
  flags : MapIs iK itmV w (a + 1) n t.flags
theorem TbAt.later {w w' : World} {a n : Nat} {t : Tb} (h : TbAt w a n t) (hb : Below w.heap.size w w') : TbAt w' a n t := ⟨h.box.later hb, h.adds.later hb, h.flags.later hb⟩
theorem TbAt.kept {w w' : World} {a n : Nat} {t : Tb} {r : Option Nat} (h : TbAt w a n t) (hg : w.grownBy w' r) (h0 : some a ≠ r) (h1 : some (a + 1) ≠ r) (h2 : some (a + 2) ≠ r) : TbAt w' a n t :=
  ⟨(hg.block _ h.box.lt h2).trans h.box, h.adds.kept hg h0, h.flags.kept hg h1⟩
theorem TbAt.mono {w : World} {a n n' : Nat} {t : Tb} (h : TbAt w a n t) (hn : n ≤ n') : TbAt w a n' t := ⟨h.box, h.adds.mono hn, h.flags.mono hn⟩
theorem TbAt.same {w w' : World} {a n : Nat} {t : Tb} (h : TbAt w a n t) (e0 : w'.heap[a]? = w.heap[a]?) (e1 : w'.heap[a + 1]? = w.heap[a + 1]?) (e2 : w'.heap[a + 2]? = w.heap[a + 2]?) : TbAt w' a n t :=
  ⟨e2.trans h.box, h.adds.same e0, h.flags.same e1⟩

set_option maxRecDepth 100000 in
theorem zero_item (w : World) : (zeroValue 49).run Tryz.prog w = .ok (itmV (0, Rc.nil)) w := by kernel_rfl

set_option maxRecDepth 100000 in
set_option maxHeartbeats 2000000 in
/-- The latest of a mail is kept: nothing but that map has turned. -/
theorem keepLatest_any (f : Int → Option Itm) (x : Itm) (g n : Nat) (w : World) (h : MapIs iK itmV w g n f) (hn : n ≤ 1000000) (hu : iK.ok x.2.uid) :
    Calls Tryz.prog 89 #[.map (some g), itmV x] w fun e w' => e = .returned (.tuple #[]) ∧ MapIs iK itmV w' g (n + 1) (keepL f x) ∧ w.grownBy w' (some g) := by
  have gA := World.grownBy_alloc w (.cells #[.int .i64 x.1, .int .i64 x.2.kind, .int .i64 x.2.valid, .int .i64 x.2.uid, .int .i64 x.2.next, .int .i64 x.2.flags, .string x.2.user, .string x.2.name, .string x.2.text] 49) (some g)
  have M1 := h.later (belNew w (.cells #[.int .i64 x.1, .int .i64 x.2.kind, .int .i64 x.2.valid, .int .i64 x.2.uid, .int .i64 x.2.next, .int .i64 x.2.flags, .string x.2.user, .string x.2.name, .string x.2.text] 49))
  have X1 := Box.new w #[.int .i64 x.1, .int .i64 x.2.kind, .int .i64 x.2.valid, .int .i64 x.2.uid, .int .i64 x.2.next, .int .i64 x.2.flags, .string x.2.user, .string x.2.name, .string x.2.text] 49
  obtain ⟨z, hz, hzs⟩ : ∃ z : Itm, (Instr.lookup 103 (.map (some g)) (.int .i64 x.2.uid) false).run Tryz.prog (w.alloc (.cells #[.int .i64 x.1, .int .i64 x.2.kind, .int .i64 x.2.valid, .int .i64 x.2.uid, .int .i64 x.2.next, .int .i64 x.2.flags, .string x.2.user, .string x.2.name, .string x.2.text] 49)) = .ok (itmV z) (w.alloc (.cells #[.int .i64 x.1, .int .i64 x.2.kind, .int .i64 x.2.valid, .int .i64 x.2.uid, .int .i64 x.2.next, .int .i64 x.2.flags, .string x.2.user, .string x.2.name, .string x.2.text] 49)) ∧ sqO (f x.2.uid) = z.1 := by
    cases hf : f x.2.uid with
    | none => exact ⟨(0, Rc.nil), M1.look_gone (t := 103) Tryz.underlying103 (zero_item _) hu hf false, rfl⟩
    | some y => exact ⟨y, M1.look_there (t := 103) Tryz.underlying103 (zero_item _) hu hf false, rfl⟩
  have HZS := Lib.hid hzs
  have HM := Lib.hid M1
  have HU := Lib.hid hu
  have HGA := Lib.hid gA
  clear hzs M1 hu gA h
  obtain ⟨q0, q1, q2, q3, q4, q5, q6, q7, q8, _⟩ := X1.nine
  clear X1
  have hfd : ∀ wx, (Instr.field 49 (itmV z) 0).run Tryz.prog wx = .ok (.int .i64 z.1) wx := fun _ => by kernel_rfl
  by_cases hlt : z.1 < x.1
  · have HK : Hid (keepL f x = fun u => if u = x.2.uid then some x else f u) := keepL_lt (by rw [HZS.out]; exact hlt)
    obtain ⟨zs, zr⟩ := z
    obtain ⟨sq, K, V, U, N, FL, US, NM, TX⟩ := x
    unfold itmV itV at hz hfd ⊢
    simp only at hz hfd hlt HK HU HM HGA q0 q1 q2 q3 q4 q5 q6 q7 q8 ⊢
    go_enter Tryz.func89, Tryz.ntmps89
    go_wp2_with (at_mapUpdate; refine wpList_put rfl _ _ _ _ rfl iK itmV itmV_inj _ Tryz.underlying103 g n f rfl HM.out (by unfold maxLen; omega) U (sq, ⟨K, V, U, N, FL, US, NM, TX⟩) rfl rfl HU.out ?_; intro w8 hM8 hg8 hs8)
    go_end0
    exact ⟨rfl, by rw [HK.out]; exact hM8, HGA.out.trans hg8⟩
  · have HK : Hid (keepL f x = f) := keepL_ge (by rw [HZS.out]; exact hlt)
    obtain ⟨zs, zr⟩ := z
    obtain ⟨sq, K, V, U, N, FL, US, NM, TX⟩ := x
    unfold itmV itV at hz hfd ⊢
    simp only at hz hfd hlt HK HU HM HGA q0 q1 q2 q3 q4 q5 q6 q7 q8 ⊢
    go_enter Tryz.func89, Tryz.ntmps89
    go_wp2
    go_end0
    exact ⟨rfl, by rw [HK.out]; exact HM.out.mono (by omega), HGA.out⟩

theorem compare_any (x y : Int) (w : World) : Calls Tryz.prog 80 #[.int .i64 x, .int .i64 y] w fun e w' => e = .returned (.int .i64 (Lib.compareInt x y)) ∧ w = w' :=
  (AnyG.cmp_Compare_int Tryz.cmpInt x y w).mono fun _ _ ⟨h1, h2⟩ => ⟨h1, h2.symm⟩

set_option maxRecDepth 100000 in
set_option maxHeartbeats 1000000 in
/-- The first of two numbers that is not 0. -/
theorem cmpOr_any (x y : Int) (g : Nat) (w : World) (h0 : w.cell? ⟨g, 0, none⟩ = some (.int .i64 x)) (h1 : w.cell? ⟨g, 1, none⟩ = some (.int .i64 y)) :
    Calls Tryz.prog 79 #[.slice (some ⟨g, 0, none⟩) 2 2] w fun e w' => e = .returned (.int .i64 (if x ≠ 0 then x else y)) ∧ w = w' := by
  obtain ⟨D, hD⟩ : ∃ D, (if x ≠ 0 then x else y) = D := ⟨_, rfl⟩
  have HD := Lib.hid hD
  rw [hD]
  clear hD
  go_enter Tryz.func79, Tryz.ntmps79
  go_wp2
  go_loopw [8] (fun iv wr => (iv = .int .i64 0 ∨ (iv = .int .i64 1 ∧ Hid (x = 0)) ∨ (iv = .int .i64 2 ∧ Hid (x = 0) ∧ Hid (y = 0))) ∧ w = wr) (fun iv _ => 2 - (intOf iv).toNat)
  case atStart => exact ⟨.inl rfl, rfl⟩
  case round =>
    obtain ⟨hc, rfl⟩ := hrel
    rcases hc with rfl | ⟨rfl, hx⟩ | ⟨rfl, hx, hy⟩
    · by_cases hx : x = 0
      · have HX := Lib.hid hx
        go_wp2
        exact ⟨⟨.inr (.inl ⟨by first | rfl | go_num, HX⟩), by trivial⟩, by simp [intOf]⟩
      · have HX := Lib.hid hx
        go_wp2
        go_ret
        exact ⟨by rw [← HD.out, if_pos HX.out]; rfl, rfl⟩
    · by_cases hy : y = 0
      · have HY := Lib.hid hy
        go_wp2
        exact ⟨⟨.inr (.inr ⟨by first | rfl | go_num, hx, HY⟩), by trivial⟩, by simp [intOf]⟩
      · go_wp2
        go_ret
        exact ⟨by rw [← HD.out, if_neg (fun c => c hx.out)]; rfl, rfl⟩
    · go_wp2
      go_ret
      exact ⟨by rw [← HD.out, if_neg (fun c => c hx.out), hy.out]; rfl, rfl⟩

end Go.Proofs.YtahebgceoidebaaGreat

/- The records of a box gathered: one record more. -/
namespace Go.Proofs.YtahebgceoidebaaGreat
open Go.RowKit

/-- Records held against each other: by Next, then by Seq. -/
def nsC (x y : Itm) : Int := if Lib.compareInt x.2.next y.2.next ≠ 0 then Lib.compareInt x.2.next y.2.next else Lib.compareInt x.1 y.1
theorem nsC_pos (x y : Itm) : 0 < nsC x y ↔ aheadB (fun z => z.2.next) x y = true := by
  unfold nsC aheadB Lib.compareInt
  simp only [decide_eq_true_eq]
  by_cases h1 : x.2.next < y.2.next
  · simp [h1]; omega
  · by_cases h2 : y.2.next < x.2.next
    · simp [h1, h2]
    · have h3 : x.2.next = y.2.next := by omega
      simp only [h3, Int.lt_irrefl, if_false]
      by_cases h4 : x.1 < y.1
      · simp [h4]; omega
      · by_cases h5 : y.1 < x.1
        · simp [h4, h5]
        · simp [h4, h5]

set_option maxRecDepth 100000 in
set_option maxHeartbeats 2000000 in
theorem byNextAndSeq_any (x y : Itm) (w : World) : Calls Tryz.prog 55 #[itmV x, itmV y] w fun e w' => e = .returned (.int .i64 (nsC x y)) ∧ Below w.heap.size w w' := by
  have X0 := (Box.new w #[.int .i64 x.1, .int .i64 x.2.kind, .int .i64 x.2.valid, .int .i64 x.2.uid, .int .i64 x.2.next, .int .i64 x.2.flags, .string x.2.user, .string x.2.name, .string x.2.text] 49).later (belNew _ (.cells #[.int .i64 y.1, .int .i64 y.2.kind, .int .i64 y.2.valid, .int .i64 y.2.uid, .int .i64 y.2.next, .int .i64 y.2.flags, .string y.2.user, .string y.2.name, .string y.2.text] 49))
  have X1 := Box.new (w.alloc (.cells #[.int .i64 x.1, .int .i64 x.2.kind, .int .i64 x.2.valid, .int .i64 x.2.uid, .int .i64 x.2.next, .int .i64 x.2.flags, .string x.2.user, .string x.2.name, .string x.2.text] 49)) #[.int .i64 y.1, .int .i64 y.2.kind, .int .i64 y.2.valid, .int .i64 y.2.uid, .int .i64 y.2.next, .int .i64 y.2.flags, .string y.2.user, .string y.2.name, .string y.2.text] 49
  rw [show (w.alloc (.cells #[.int .i64 x.1, .int .i64 x.2.kind, .int .i64 x.2.valid, .int .i64 x.2.uid, .int .i64 x.2.next, .int .i64 x.2.flags, .string x.2.user, .string x.2.name, .string x.2.text] 49)).heap.size = w.heap.size + 1 from by simp] at X1
  have b1 : Below w.heap.size w ((w.alloc (.cells #[.int .i64 x.1, .int .i64 x.2.kind, .int .i64 x.2.valid, .int .i64 x.2.uid, .int .i64 x.2.next, .int .i64 x.2.flags, .string x.2.user, .string x.2.name, .string x.2.text] 49)).alloc (.cells #[.int .i64 y.1, .int .i64 y.2.kind, .int .i64 y.2.valid, .int .i64 y.2.uid, .int .i64 y.2.next, .int .i64 y.2.flags, .string y.2.user, .string y.2.name, .string y.2.text] 49)) := ((Below.refl _ _).alloc (Nat.le_refl _) _).alloc (by simp) _
  obtain ⟨D, hD⟩ : ∃ D, nsC x y = D := ⟨_, rfl⟩
  have HD := Lib.hid hD
  rw [hD]
  clear hD
  unfold itmV itV
  go_enter Tryz.func55, Tryz.ntmps55
  go_upto_region 1 with fail
  generalize (w.alloc (.cells #[.int .i64 x.1, .int .i64 x.2.kind, .int .i64 x.2.valid, .int .i64 x.2.uid, .int .i64 x.2.next, .int .i64 x.2.flags, .string x.2.user, .string x.2.name, .string x.2.text] 49)).alloc (.cells #[.int .i64 y.1, .int .i64 y.2.kind, .int .i64 y.2.valid, .int .i64 y.2.uid, .int .i64 y.2.next, .int .i64 y.2.flags, .string y.2.user, .string y.2.name, .string y.2.text] 49) = w1 at X0 X1 b1 ⊢
  obtain ⟨g1, hg1⟩ : ∃ g1, w.heap.size + 1 = g1 := ⟨_, rfl⟩
  rw [hg1] at X1 ⊢
  obtain ⟨g0, hg0⟩ : ∃ g0, w.heap.size = g0 := ⟨_, rfl⟩
  rw [hg0] at X0
  have r0 : ∀ X, Below w1.heap.size w1 X → X.cell? ⟨g0, 4, none⟩ = some (.int .i64 x.2.next) := fun X hb => (X0.later hb).cell 4 _ rfl
  have r1 : ∀ X, Below w1.heap.size w1 X → X.cell? ⟨g1, 4, none⟩ = some (.int .i64 y.2.next) := fun X hb => (X1.later hb).cell 4 _ rfl
  have r2 : ∀ X, Below w1.heap.size w1 X → X.cell? ⟨g0, 0, none⟩ = some (.int .i64 x.1) := fun X hb => (X0.later hb).cell 0 _ rfl
  have r3 : ∀ X, Below w1.heap.size w1 X → X.cell? ⟨g1, 0, none⟩ = some (.int .i64 y.1) := fun X hb => (X1.later hb).cell 0 _ rfl
  have HB := Lib.hid b1
  have HG0 := Lib.hid hg0
  have HG1 := Lib.hid hg1
  rw [hg0]
  clear X0 X1 b1 hg0 hg1
  refine wp_region_held_drew (S := fun x => Below w1.heap.size w1 x) (by kernel_rfl) ((Below.refl _ _).drew) (fun hHeld => ?_)
  refine takeL (i := 0) (v := .pointer (some ⟨g0, 1, none⟩)) rfl (by kernel_rfl) (by kernel_rfl) (by kernel_rfl) (fun _ _ _ h => h) (Or.inl ⟨by rfl, ?_⟩) (by assumption) ?_
  · intro x hSx; go_simp
  try simp only [Act.put, List.setIfInBounds_toArray, List.set_cons_zero, List.set_cons_succ]
  refine takeL (i := 1) (v := .pointer (some ⟨g0, 4, none⟩)) rfl (by kernel_rfl) (by kernel_rfl) (by kernel_rfl) (fun _ _ _ h => h) (Or.inl ⟨by rfl, ?_⟩) (by assumption) ?_
  · intro x hSx; go_simp
  try simp only [Act.put, List.setIfInBounds_toArray, List.set_cons_zero, List.set_cons_succ]
  refine takeL (i := 2) (v := .int .i64 x.2.next) rfl (by kernel_rfl) (by kernel_rfl) (by kernel_rfl) (fun _ _ _ h => h) (Or.inl ⟨by rfl, ?_⟩) (by assumption) ?_
  · intro x hSx; have q0 := r0 x hSx; go_simp
  try simp only [Act.put, List.setIfInBounds_toArray, List.set_cons_zero, List.set_cons_succ]
  refine takeL (i := 3) (v := .pointer (some ⟨g1, 1, none⟩)) rfl (by kernel_rfl) (by kernel_rfl) (by kernel_rfl) (fun _ _ _ h => h) (Or.inl ⟨by rfl, ?_⟩) (by assumption) ?_
  · intro x hSx; go_simp
  try simp only [Act.put, List.setIfInBounds_toArray, List.set_cons_zero, List.set_cons_succ]
  refine takeL (i := 4) (v := .pointer (some ⟨g1, 4, none⟩)) rfl (by kernel_rfl) (by kernel_rfl) (by kernel_rfl) (fun _ _ _ h => h) (Or.inl ⟨by rfl, ?_⟩) (by assumption) ?_
  · intro x hSx; go_simp
  try simp only [Act.put, List.setIfInBounds_toArray, List.set_cons_zero, List.set_cons_succ]
  refine takeL (i := 5) (v := .int .i64 y.2.next) rfl (by kernel_rfl) (by kernel_rfl) (by kernel_rfl) (fun _ _ _ h => h) (Or.inl ⟨by rfl, ?_⟩) (by assumption) ?_
  · intro x hSx; have q0 := r1 x hSx; go_simp
  try simp only [Act.put, List.setIfInBounds_toArray, List.set_cons_zero, List.set_cons_succ]
  refine takeL (i := 7) (v := .pointer (some ⟨g0, 0, none⟩)) rfl (by kernel_rfl) (by kernel_rfl) (by kernel_rfl) (fun _ _ _ h => h) (Or.inl ⟨by rfl, ?_⟩) (by assumption) ?_
  · intro x hSx; go_simp
  try simp only [Act.put, List.setIfInBounds_toArray, List.set_cons_zero, List.set_cons_succ]
  refine takeL (i := 8) (v := .int .i64 x.1) rfl (by kernel_rfl) (by kernel_rfl) (by kernel_rfl) (fun _ _ _ h => h) (Or.inl ⟨by rfl, ?_⟩) (by assumption) ?_
  · intro x hSx; have q0 := r2 x hSx; go_simp
  try simp only [Act.put, List.setIfInBounds_toArray, List.set_cons_zero, List.set_cons_succ]
  refine takeL (i := 9) (v := .pointer (some ⟨g1, 0, none⟩)) rfl (by kernel_rfl) (by kernel_rfl) (by kernel_rfl) (fun _ _ _ h => h) (Or.inl ⟨by rfl, ?_⟩) (by assumption) ?_
  · intro x hSx; go_simp
  try simp only [Act.put, List.setIfInBounds_toArray, List.set_cons_zero, List.set_cons_succ]
  refine takeL (i := 10) (v := .int .i64 y.1) rfl (by kernel_rfl) (by kernel_rfl) (by kernel_rfl) (fun _ _ _ h => h) (Or.inl ⟨by rfl, ?_⟩) (by assumption) ?_
  · intro x hSx; have q0 := r3 x hSx; go_simp
  try simp only [Act.put, List.setIfInBounds_toArray, List.set_cons_zero, List.set_cons_succ]
  refine wpAnyH_ready (rs := [6]) (by kernel_rfl) (by simp) ?_
  refine readyOne rfl (fun K' hK => ?_)
  go_simp
  refine (compare_any _ _ _).mono ?_
  rintro e wT ⟨rfl, rfl⟩
  go_wp2_with fail
  refine hK.out _ _ (hHeld) (fun hS2 => ?_)
  clear hK K' hHeld
  have hHeld := hS2
  clear hS2
  try simp only [Act.put, List.setIfInBounds_toArray, List.set_cons_zero, List.set_cons_succ]
  refine wpAnyH_ready (rs := [11]) (by kernel_rfl) (by simp) ?_
  refine readyOne rfl (fun K' hK => ?_)
  go_simp
  refine (compare_any _ _ _).mono ?_
  rintro e wT ⟨rfl, rfl⟩
  go_wp2_with fail
  refine hK.out _ _ (hHeld) (fun hS2 => ?_)
  clear hK K' hHeld
  have hHeld := hS2
  clear hS2
  try simp only [Act.put, List.setIfInBounds_toArray, List.set_cons_zero, List.set_cons_succ]
  refine wpAnyH_ready (rs := [12]) (by kernel_rfl) (by simp) ?_
  refine readyOne rfl (fun K' hK => ?_)
  go_simp
  refine hK.out _ _ (belNew0 w1 _) (fun hS2 => ?_)
  clear hK K' hHeld
  have hHeld := hS2
  clear hS2
  try simp only [Act.put, List.setIfInBounds_toArray, List.set_cons_zero, List.set_cons_succ]
  have XN := Box.new w1 #[.int .i64 (Lib.compareInt x.2.next y.2.next), .int .i64 (Lib.compareInt x.1 y.1)] 3
  have z0 : (w1.alloc (.cells #[.int .i64 (Lib.compareInt x.2.next y.2.next), .int .i64 (Lib.compareInt x.1 y.1)] 3)).drew.cell? ⟨w1.heap.size, 0, none⟩ = some (.int .i64 (Lib.compareInt x.2.next y.2.next)) := XN.cell 0 _ rfl
  have z1 : (w1.alloc (.cells #[.int .i64 (Lib.compareInt x.2.next y.2.next), .int .i64 (Lib.compareInt x.1 y.1)] 3)).drew.cell? ⟨w1.heap.size, 1, none⟩ = some (.int .i64 (Lib.compareInt x.1 y.1)) := XN.cell 1 _ rfl
  have HOR := Lib.hid (cmpOr_any _ _ _ _ z0 z1)
  clear XN z0 z1
  generalize (w1.alloc (.cells #[.int .i64 (Lib.compareInt x.2.next y.2.next), .int .i64 (Lib.compareInt x.1 y.1)] 3)).drew = w2 at HOR hHeld ⊢
  rw [show (if Lib.compareInt x.2.next y.2.next ≠ 0 then Lib.compareInt x.2.next y.2.next else Lib.compareInt x.1 y.1) = D from HD.out] at HOR
  refine wpAnyH_ready (rs := [13]) (by kernel_rfl) (by simp) ?_
  refine readyOne rfl (fun K' hK => ?_)
  go_simp
  refine HOR.out.mono ?_
  rintro e wT ⟨rfl, rfl⟩
  go_wp2_with fail
  refine hK.out _ _ hHeld (fun hS2 => ?_)
  clear hK K' hHeld
  have hHeld := hS2
  clear hS2
  try simp only [Act.put, List.setIfInBounds_toArray, List.set_cons_zero, List.set_cons_succ]
  refine takeL (i := 14) (v := .int .i64 D) rfl (by kernel_rfl) (by kernel_rfl) (by kernel_rfl) (fun _ _ _ h => h) (Or.inl ⟨by rfl, ?_⟩) (by assumption) ?_
  · intro x hSx; go_simp
  try simp only [Act.put, List.setIfInBounds_toArray, List.set_cons_zero, List.set_cons_succ]
  refine wpAnyH_done (by kernel_rfl) ?_ _
  go_wp2
  go_ret
  exact ⟨rfl, HB.out.trans (hHeld.mono HB.out.size)⟩

end Go.Proofs.YtahebgceoidebaaGreat

/- The program's tellers: the place of who tells each subject; and the list of closures. -/
namespace Go.Proofs.YtahebgceoidebaaGreat
open Go.RowKit

set_option maxRecDepth 100000 in
set_option maxHeartbeats 1000000 in
theorem subjectOf_any (r : Rc) (w : World) : Calls Tryz.prog 43 #[r.v] w fun e w' => e = .returned (.agg #[.int .i64 r.kind, .int .i64 r.valid, .int .i64 r.uid]) ∧ Below w.heap.size w w' := by
  have X1 := (Box.new w r.cs 47).later (belNew _ (.cells #[.int .i64 0, .int .i64 0, .int .i64 0] 77))
  have X2 : Box ((w.alloc (.cells r.cs 47)).alloc (.cells #[.int .i64 0, .int .i64 0, .int .i64 0] 77)) (w.heap.size + 1) #[.int .i64 0, .int .i64 0, .int .i64 0] 77 := by
    have := Box.new (w.alloc (.cells r.cs 47)) #[.int .i64 0, .int .i64 0, .int .i64 0] 77
    rwa [show (w.alloc (.cells r.cs 47)).heap.size = w.heap.size + 1 from by simp] at this
  have b1 : Below w.heap.size w ((w.alloc (.cells r.cs 47)).alloc (.cells #[.int .i64 0, .int .i64 0, .int .i64 0] 77)) := ((Below.refl _ _).alloc (Nat.le_refl _) _).alloc (by simp) _
  obtain ⟨x0, x1, x2, _⟩ := X1.rec
  obtain ⟨K, V, U, N, FL, US, NM, TX⟩ := r
  unfold Rc.v
  unfold Rc.cs at *
  simp only at *
  clear X1
  go_enter Tryz.func43, Tryz.ntmps43
  go_upto_region 1 with fail
  generalize (w.alloc (.cells #[.int .i64 K, .int .i64 V, .int .i64 U, .int .i64 N, .int .i64 FL, .string US, .string NM, .string TX] 47)).alloc (.cells #[.int .i64 0, .int .i64 0, .int .i64 0] 77) = w1 at x0 x1 x2 X2 b1 ⊢
  obtain ⟨y0, y1, y2, f0, f1, f2⟩ := X2.three
  have X3 : Box (((w1.setCell ⟨w.heap.size + 1, 0, none⟩ (.int .i64 K)).setCell ⟨w.heap.size + 1, 1, none⟩ (.int .i64 V)).setCell ⟨w.heap.size + 1, 2, none⟩ (.int .i64 U)) (w.heap.size + 1) #[.int .i64 K, .int .i64 V, .int .i64 U] 77 := X2.set3 (.int .i64 K) (.int .i64 V) (.int .i64 U)
  obtain ⟨z0, z1, z2, _⟩ := X3.three
  have bE := Lib.hid (below_set3 b1 (show w.heap.size ≤ w.heap.size + 1 by omega) (.int .i64 K) (.int .i64 V) (.int .i64 U))
  clear X2 X3
  go_wp2
  refine bodyPost_ret (v := .agg #[.int .i64 K, .int .i64 V, .int .i64 U]) (by simp [results, Tryz.results43, go_sem, z0, z1, z2]) rfl ⟨rfl, bE.out⟩

set_option maxRecDepth 100000 in
set_option maxHeartbeats 8000000 in
theorem tellerPlaces_any (l : List Itm) (v : Value) (w : World) (h : Rows' itE w v l) (hok : itemsOk l) :
    Calls Tryz.prog 41 #[v] w fun e w' => ∃ gM, e = .returned (.map (some gM)) ∧ w.heap.size ≤ gM ∧ MapIs sjK inN w' gM l.length (telP l l.length) ∧ Below w.heap.size w w' := by
  obtain ⟨ad, cap, rfl, hrow⟩ := h.items
  have HR := Lib.hid hrow
  have HOK := Lib.hid hok
  have HTI := Lib.hid (fun i hi => telI l i hi)
  have hl : l.length ≤ 200 := hok.2.2
  clear h hrow hok
  obtain ⟨n, hn⟩ : ∃ n, l.length = n := ⟨_, rfl⟩
  rw [hn] at hl HTI ⊢
  have HN := Lib.hid hn
  clear hn
  have M0 := MapIs.made sjK inN w
  have b1 : Below w.heap.size w (w.alloc (.map #[] 0)) := (Below.refl _ _).alloc (Nat.le_refl _) _
  have hmm := @run_makeMap Tryz.prog
  go_enter Tryz.func41, Tryz.ntmps41
  go_wp2
  clear hmm
  generalize w.alloc (.map #[] 0) = w1 at M0 b1 ⊢
  obtain ⟨gM, hgM⟩ : ∃ gM, w.heap.size = gM := ⟨_, rfl⟩
  rw [hgM] at M0
  rw [hgM]
  have HGM : Hid (w.heap.size ≤ gM) := by show _ ≤ _; omega
  clear hgM
  go_loopw [12] (fun iv wr => ∃ i : Nat, i ≤ n ∧ iv = .int .i64 (i : Int) ∧ MapIs sjK inN wr gM i (telP l i) ∧ Below w.heap.size w wr) (fun iv _ => n - (intOf iv).toNat)
  case atStart => exact ⟨0, by omega, rfl, M0, b1⟩
  case round =>
    clear M0 b1
    obtain ⟨i, hi, rfl, MM, bW⟩ := hrel
    by_cases hlt : i < n
    · obtain ⟨x, hgx⟩ : ∃ x, l[i]? = some x := ⟨_, List.getElem?_eq_getElem (by rw [HN.out]; exact hlt)⟩
      obtain ⟨gp, op, rfl, p0, p1, p2, p3, p4, p5, p6, p7, p8⟩ := HR.out _ bW i _ hgx
      have HRW : Hid (∀ X, Below w.heap.size w X → ∀ (j : Nat) (y : Itm), l[j]? = some y → X.cell? ⟨gp, op + j * 9, none⟩ = some (.int .i64 y.1) ∧ X.cell? ⟨gp, op + j * 9 + 1, none⟩ = some (.int .i64 y.2.kind) ∧ X.cell? ⟨gp, op + j * 9 + 2, none⟩ = some (.int .i64 y.2.valid) ∧ X.cell? ⟨gp, op + j * 9 + 3, none⟩ = some (.int .i64 y.2.uid) ∧ X.cell? ⟨gp, op + j * 9 + 4, none⟩ = some (.int .i64 y.2.next) ∧ X.cell? ⟨gp, op + j * 9 + 5, none⟩ = some (.int .i64 y.2.flags) ∧ X.cell? ⟨gp, op + j * 9 + 6, none⟩ = some (.string y.2.user) ∧ X.cell? ⟨gp, op + j * 9 + 7, none⟩ = some (.string y.2.name) ∧ X.cell? ⟨gp, op + j * 9 + 8, none⟩ = some (.string y.2.text)) := fun X hX j y hy => by
        obtain ⟨g', o', e, q⟩ := HR.out X hX j y hy
        cases e
        exact q
      have hxo := (HOK.out.1 x (List.mem_of_getElem? hgx)).2
      have HKO : Hid (sjK.ok (sjOf x)) := sj_ok (by have := hxo.1; omega) (by have := hxo.2.1; omega) (by
        have h4 := hxo.2.2.2.1
        by_cases c : 3 ≤ x.2.kind
        · rw [if_pos c] at h4; omega
        · rw [if_neg c] at h4; omega)
      have HPU := Lib.hid (fun h => telP_put hgx h)
      have HKE := Lib.hid (fun h => telP_keep hgx h)
      have HTS := Lib.hid (HTI.out i hi (sjOf x))
      have HBN := Lib.hid (fun y X => byNextAndSeq_any x y X)
      have HNP := Lib.hid (fun y => nsC_pos x y)
      have HSO := Lib.hid (fun X => subjectOf_any x.2 X)
      clear hgx hxo
      generalize telP l i = f at *
      obtain ⟨sq, K, V, U, N, FL, US, NM, TX⟩ := x
      unfold sjOf at HKO HPU HKE HTS
      unfold Rc.v at HSO
      simp only at p0 p1 p2 p3 p4 p5 p6 p7 p8 HKO HPU HKE HTS HSO
      have hi0 : (0 : Int) ≤ (i : Int) := by omega
      have hi1 : (i : Int) < (n : Int) := by omega
      have X5 := Box.new wr #[.int .i64 sq, .int .i64 K, .int .i64 V, .int .i64 U, .int .i64 N, .int .i64 FL, .string US, .string NM, .string TX] 49
      have k5 := belNew wr (.cells #[.int .i64 sq, .int .i64 K, .int .i64 V, .int .i64 U, .int .i64 N, .int .i64 FL, .string US, .string NM, .string TX] 49)
      have b5 := bW.trans (k5.mono bW.size)
      replace MM := MM.later k5
      clear k5 bW
      go_upto_region 5 with fail
      clear p0 p1 p2 p3 p4 p5 p6 p7 p8
      generalize wr.alloc (.cells #[.int .i64 sq, .int .i64 K, .int .i64 V, .int .i64 U, .int .i64 N, .int .i64 FL, .string US, .string NM, .string TX] 49) = w5 at X5 b5 MM ⊢
      generalize wr.heap.size = g5 at X5 ⊢
      obtain ⟨q0, q1, q2, q3, q4, q5, q6, q7, q8, _⟩ := X5.nine
      go_wp2_with fail
      clear q0 q1 q2 q3 q4 q5 q6 q7 q8
      refine (HSO.out _).mono ?_
      rintro e w6 ⟨rfl, k6⟩
      have b6 := b5.trans (k6.mono b5.size)
      have X7 := Box.new w6 #[.int .i64 K, .int .i64 V, .int .i64 U] 77
      have k7 := belNew w6 (.cells #[.int .i64 K, .int .i64 V, .int .i64 U] 77)
      have b7 := b6.trans (k7.mono b6.size)
      replace MM := (MM.later k6).later k7
      replace X5 := (X5.later k6).later k7
      clear k6 k7 b5 b6
      go_upto_region 6 with fail
      generalize w6.alloc (.cells #[.int .i64 K, .int .i64 V, .int .i64 U] 77) = w7 at X5 X7 MM b7 ⊢
      generalize w6.heap.size = g6 at X7 ⊢
      have H7 : Hid (∀ X, Below w7.heap.size w7 X → (X.cell? ⟨g5, 0, none⟩ = some (.int .i64 sq) ∧ X.cell? ⟨g5, 1, none⟩ = some (.int .i64 K) ∧ X.cell? ⟨g5, 2, none⟩ = some (.int .i64 V) ∧ X.cell? ⟨g5, 3, none⟩ = some (.int .i64 U) ∧ X.cell? ⟨g5, 4, none⟩ = some (.int .i64 N) ∧ X.cell? ⟨g5, 5, none⟩ = some (.int .i64 FL) ∧ X.cell? ⟨g5, 6, none⟩ = some (.string US) ∧ X.cell? ⟨g5, 7, none⟩ = some (.string NM) ∧ X.cell? ⟨g5, 8, none⟩ = some (.string TX)) ∧ (X.cell? ⟨g6, 0, none⟩ = some (.int .i64 K) ∧ X.cell? ⟨g6, 1, none⟩ = some (.int .i64 V) ∧ X.cell? ⟨g6, 2, none⟩ = some (.int .i64 U)) ∧ MapIs sjK inN X gM i f ∧ Below w.heap.size w X) := fun X hX => by
        obtain ⟨a0, a1, a2, a3, a4, a5, a6, a7, a8, _⟩ := (X5.later hX).nine
        obtain ⟨s0, s1, s2, _⟩ := (X7.later hX).three
        exact ⟨⟨a0, a1, a2, a3, a4, a5, a6, a7, a8⟩, ⟨s0, s1, s2⟩, MM.later hX, b7.trans (hX.mono b7.size)⟩
      obtain ⟨_, ⟨s0, s1, s2⟩, _, bW⟩ := H7.out _ (Below.refl _ _)
      clear X5 X7
      cases hf : f (K, V, U) with
      | none =>
        have hlk : (Instr.lookup 72 (.map (some gM)) (.agg #[.int .i64 K, .int .i64 V, .int .i64 U]) true).run Tryz.prog w7 = .ok (.tuple #[.int .i64 0, .bool false]) w7 := MM.look_gone (t := 72) Tryz.underlying72 (zero_intN w7) HKO.out hf true
        have HST := Lib.hid (HPU.out (by rw [hf]; rfl))
        clear HPU HKE hf MM
        go_upto_region 7 with fail
        clear hlk
        go_quiet (fail)
        obtain ⟨_, ⟨s0, s1, s2⟩, MM, bW⟩ := H7.out _ (below_drewN (Below.refl w7.heap.size w7) nq)
        have HMM := Lib.hid MM
        clear MM
        go_wp2_with (at_mapUpdate; refine wpList_put rfl _ _ _ _ rfl sjK inN inN_inj _ Tryz.underlying72 gM i f rfl HMM.out (by unfold maxLen; omega) (K, V, U) i rfl rfl HKO.out ?_; intro w8 hM hg8 hs8)
        exact ⟨⟨i + 1, by omega, by simp, by rw [HST.out]; exact hM, bW.grown hg8 bW.size (fun q hq => by cases hq; exact HGM.out)⟩, by first | omega | (simp [intOf]; omega)⟩
      | some j =>
        have hlk : (Instr.lookup 72 (.map (some gM)) (.agg #[.int .i64 K, .int .i64 V, .int .i64 U]) true).run Tryz.prog w7 = .ok (.tuple #[.int .i64 (j : Int), .bool true]) w7 := MM.look_there (t := 72) Tryz.underlying72 (zero_intN w7) HKO.out hf true
        obtain ⟨y, hjl, hgy⟩ : ∃ y, j < i ∧ l[j]? = some y := by
          rcases HTS.out with ⟨h1, _⟩ | ⟨j', y, h1, h2, h3, _⟩
          · rw [hf] at h1; cases h1
          · rw [hf] at h1; cases h1; exact ⟨y, h2, h3⟩
        have HTA : Hid (telA l (f (K, V, U)) (sq, ⟨K, V, U, N, FL, US, NM, TX⟩) = bigB (sq, ⟨K, V, U, N, FL, US, NM, TX⟩) y) := by
          show _ = _
          rw [hf]
          unfold telA
          simp only [hgy]
        have HNY := Lib.hid (HNP.out y)
        have HBY := Lib.hid (HBN.out y)
        have HYC := Lib.hid (fun X hX => HRW.out X hX j y hgy)
        have hj0 : (0 : Int) ≤ (j : Int) := by omega
        have hj1 : (j : Int) < (n : Int) := by omega
        clear hgy hf MM HTS HBN HNP HRW
        rw [HTA.out] at HPU HKE
        have hbg : bigB (sq, ⟨K, V, U, N, FL, US, NM, TX⟩) y = decide (0 < nsC (sq, ⟨K, V, U, N, FL, US, NM, TX⟩) y) := by
          have := HNY.out
          unfold bigB
          by_cases c : 0 < nsC (sq, ⟨K, V, U, N, FL, US, NM, TX⟩) y
          · rw [decide_eq_true c]; exact this.1 c
          · rw [decide_eq_false c]; exact Bool.eq_false_iff.2 (fun e => c (this.2 e))
        rw [hbg] at HPU HKE
        clear hbg HTA HNY
        generalize nsC (sq, ⟨K, V, U, N, FL, US, NM, TX⟩) y = D at HPU HKE HBY
        obtain ⟨ys, yK, yV, yU, yN, yF, yUS, yNM, yTX⟩ := y
        unfold itmV itV at HBY
        simp only at HBY HYC
        have HS : Hid (∀ X, Below w7.drew.heap.size w7.drew X → ((X.cell? ⟨gp, op + j * 9, none⟩ = some (.int .i64 ys) ∧ X.cell? ⟨gp, op + j * 9 + 1, none⟩ = some (.int .i64 yK) ∧ X.cell? ⟨gp, op + j * 9 + 2, none⟩ = some (.int .i64 yV) ∧ X.cell? ⟨gp, op + j * 9 + 3, none⟩ = some (.int .i64 yU) ∧ X.cell? ⟨gp, op + j * 9 + 4, none⟩ = some (.int .i64 yN) ∧ X.cell? ⟨gp, op + j * 9 + 5, none⟩ = some (.int .i64 yF) ∧ X.cell? ⟨gp, op + j * 9 + 6, none⟩ = some (.string yUS) ∧ X.cell? ⟨gp, op + j * 9 + 7, none⟩ = some (.string yNM) ∧ X.cell? ⟨gp, op + j * 9 + 8, none⟩ = some (.string yTX)) ∧ (X.cell? ⟨g5, 0, none⟩ = some (.int .i64 sq) ∧ X.cell? ⟨g5, 1, none⟩ = some (.int .i64 K) ∧ X.cell? ⟨g5, 2, none⟩ = some (.int .i64 V) ∧ X.cell? ⟨g5, 3, none⟩ = some (.int .i64 U) ∧ X.cell? ⟨g5, 4, none⟩ = some (.int .i64 N) ∧ X.cell? ⟨g5, 5, none⟩ = some (.int .i64 FL) ∧ X.cell? ⟨g5, 6, none⟩ = some (.string US) ∧ X.cell? ⟨g5, 7, none⟩ = some (.string NM) ∧ X.cell? ⟨g5, 8, none⟩ = some (.string TX))) ∧ Below w7.heap.size w7 X) := fun X hX => by
          have hX2 : Below w7.heap.size w7 X := (Below.refl _ _).drew.trans hX
          obtain ⟨hq, _, _, hw⟩ := H7.out _ hX2
          exact ⟨⟨HYC.out _ hw, hq⟩, hX2⟩
        go_upto_region 7 with fail
        clear hlk s0 s1 s2 bW
        by_cases hD : 0 < D
        · have HST := Lib.hid (HPU.out (decide_eq_true hD))
          clear HPU HKE
          go_region_held3 (fun X => (X.cell? ⟨gp, op + j * 9, none⟩ = some (.int .i64 ys) ∧ X.cell? ⟨gp, op + j * 9 + 1, none⟩ = some (.int .i64 yK) ∧ X.cell? ⟨gp, op + j * 9 + 2, none⟩ = some (.int .i64 yV) ∧ X.cell? ⟨gp, op + j * 9 + 3, none⟩ = some (.int .i64 yU) ∧ X.cell? ⟨gp, op + j * 9 + 4, none⟩ = some (.int .i64 yN) ∧ X.cell? ⟨gp, op + j * 9 + 5, none⟩ = some (.int .i64 yF) ∧ X.cell? ⟨gp, op + j * 9 + 6, none⟩ = some (.string yUS) ∧ X.cell? ⟨gp, op + j * 9 + 7, none⟩ = some (.string yNM) ∧ X.cell? ⟨gp, op + j * 9 + 8, none⟩ = some (.string yTX)) ∧ (X.cell? ⟨g5, 0, none⟩ = some (.int .i64 sq) ∧ X.cell? ⟨g5, 1, none⟩ = some (.int .i64 K) ∧ X.cell? ⟨g5, 2, none⟩ = some (.int .i64 V) ∧ X.cell? ⟨g5, 3, none⟩ = some (.int .i64 U) ∧ X.cell? ⟨g5, 4, none⟩ = some (.int .i64 N) ∧ X.cell? ⟨g5, 5, none⟩ = some (.int .i64 FL) ∧ X.cell? ⟨g5, 6, none⟩ = some (.string US) ∧ X.cell? ⟨g5, 7, none⟩ = some (.string NM) ∧ X.cell? ⟨g5, 8, none⟩ = some (.string TX)))
            (first | exact (HS.out _ (Below.refl _ _)).1 | exact (HS.out _ kX).1)
            (first | (go_at_call 55; refine (HBY.out _).mono ?_; rintro e wX ⟨rfl, kX⟩))
          all_goals
            obtain ⟨_, ⟨s0, s1, s2⟩, MM, bW⟩ := H7.out _ (HS.out _ kX).2
            have HMM := Lib.hid MM
            clear MM
            go_wp2_with (at_mapUpdate; refine wpList_put rfl _ _ _ _ rfl sjK inN inN_inj _ Tryz.underlying72 gM i f rfl HMM.out (by unfold maxLen; omega) (K, V, U) i rfl rfl HKO.out ?_; intro w8 hM hg8 hs8)
            exact ⟨⟨i + 1, by omega, by simp, by rw [HST.out]; exact hM, bW.grown hg8 bW.size (fun q hq => by cases hq; exact HGM.out)⟩, by first | omega | (simp [intOf]; omega)⟩
        · have HST := Lib.hid (HKE.out (by rw [decide_eq_false hD]; exact Bool.false_ne_true))
          clear HPU HKE
          go_region_held3 (fun X => (X.cell? ⟨gp, op + j * 9, none⟩ = some (.int .i64 ys) ∧ X.cell? ⟨gp, op + j * 9 + 1, none⟩ = some (.int .i64 yK) ∧ X.cell? ⟨gp, op + j * 9 + 2, none⟩ = some (.int .i64 yV) ∧ X.cell? ⟨gp, op + j * 9 + 3, none⟩ = some (.int .i64 yU) ∧ X.cell? ⟨gp, op + j * 9 + 4, none⟩ = some (.int .i64 yN) ∧ X.cell? ⟨gp, op + j * 9 + 5, none⟩ = some (.int .i64 yF) ∧ X.cell? ⟨gp, op + j * 9 + 6, none⟩ = some (.string yUS) ∧ X.cell? ⟨gp, op + j * 9 + 7, none⟩ = some (.string yNM) ∧ X.cell? ⟨gp, op + j * 9 + 8, none⟩ = some (.string yTX)) ∧ (X.cell? ⟨g5, 0, none⟩ = some (.int .i64 sq) ∧ X.cell? ⟨g5, 1, none⟩ = some (.int .i64 K) ∧ X.cell? ⟨g5, 2, none⟩ = some (.int .i64 V) ∧ X.cell? ⟨g5, 3, none⟩ = some (.int .i64 U) ∧ X.cell? ⟨g5, 4, none⟩ = some (.int .i64 N) ∧ X.cell? ⟨g5, 5, none⟩ = some (.int .i64 FL) ∧ X.cell? ⟨g5, 6, none⟩ = some (.string US) ∧ X.cell? ⟨g5, 7, none⟩ = some (.string NM) ∧ X.cell? ⟨g5, 8, none⟩ = some (.string TX)))
            (first | exact (HS.out _ (Below.refl _ _)).1 | exact (HS.out _ kX).1)
            (first | (go_at_call 55; refine (HBY.out _).mono ?_; rintro e wX ⟨rfl, kX⟩))
          all_goals
            obtain ⟨_, _, MM, bW⟩ := H7.out _ (HS.out _ kX).2
            have HMM := Lib.hid (MM.mono (show i ≤ i + 1 by omega))
            clear MM
            go_wp2
            exact ⟨⟨i + 1, by omega, by simp, by rw [HST.out]; exact HMM.out, bW⟩, by first | omega | (simp [intOf]; omega)⟩
    · have hin : i = n := by omega
      subst hin
      go_wp2
      go_ret
      exact ⟨gM, rfl, HGM.out, MM, bW⟩

end Go.Proofs.YtahebgceoidebaaGreat

/- The list of closures. -/
namespace Go.Proofs.YtahebgceoidebaaGreat
open Go.RowKit

set_option maxRecDepth 100000 in
set_option maxHeartbeats 4000000 in
theorem wantedByKind_any (l : List Itm) (v : Value) (gM n : Nat) (f : Int × Int × Int → Option Nat) (w : World) (h : Rows' itE w v l) (hm : MapIs sjK inN w gM n f) :
    Calls Tryz.prog 42 #[v, .map (some gM)] w fun e w' => ∃ g2 g3 g5 g6 g7 gr, e = .returned (.slice (some ⟨gr, 0, none⟩) 6 6) ∧ Wn w' gM n f v l g2 g3 g5 g6 g7 ∧ (w'.cell? ⟨gr, 1, none⟩ = some (.func (.func 57) #[] #[.pointer (some ⟨g5, 0, none⟩)]) ∧ w'.cell? ⟨gr, 2, none⟩ = some (.func (.func 60) #[] #[.pointer (some ⟨g2, 0, none⟩)]) ∧ w'.cell? ⟨gr, 3, none⟩ = some (.func (.func 59) #[] #[.pointer (some ⟨g7, 0, none⟩), .pointer (some ⟨g5, 0, none⟩)]) ∧ w'.cell? ⟨gr, 4, none⟩ = some (.func (.func 59) #[] #[.pointer (some ⟨g7, 0, none⟩), .pointer (some ⟨g5, 0, none⟩)]) ∧ w'.cell? ⟨gr, 5, none⟩ = some (.func (.func 58) #[] #[.pointer (some ⟨g6, 0, none⟩), .pointer (some ⟨g5, 0, none⟩)])) ∧ (w.heap.size ≤ g2 ∧ w.heap.size ≤ g3 ∧ w.heap.size ≤ g5 ∧ w.heap.size ≤ g6 ∧ w.heap.size ≤ g7 ∧ w.heap.size ≤ gr) ∧ Below w.heap.size w w' := by
  obtain ⟨ad, cap, rfl, _⟩ := h.items
  have hmf : ∀ (fn : Fn) (first cap : Array Value) (w : World), (Instr.makeFunc fn first cap).run Tryz.prog w = .ok (.func fn first cap) w := fun _ _ _ _ => rfl
  have X2 := (Box.new w #[.slice ad l.length cap] 24).later (belNew _ (.cells #[.map (some gM)] 72))
  have X3 : Box ((w.alloc (.cells #[.slice ad l.length cap] 24)).alloc (.cells #[.map (some gM)] 72)) (w.heap.size + 1) #[.map (some gM)] 72 := by
    have := Box.new (w.alloc (.cells #[.slice ad l.length cap] 24)) #[.map (some gM)] 72
    rwa [show (w.alloc (.cells #[.slice ad l.length cap] 24)).heap.size = w.heap.size + 1 from by simp] at this
  have b1 : Below w.heap.size w ((w.alloc (.cells #[.slice ad l.length cap] 24)).alloc (.cells #[.map (some gM)] 72)) := ((Below.refl _ _).alloc (Nat.le_refl _) _).alloc (by simp) _
  go_enter Tryz.func42, Tryz.ntmps42
  go_upto_region 1 with fail
  generalize (w.alloc (.cells #[.slice ad l.length cap] 24)).alloc (.cells #[.map (some gM)] 72) = w1 at X2 X3 b1 ⊢
  have HM := Lib.hid (hm.later b1)
  have HR := Lib.hid (h.later b1)
  clear hm h
  obtain ⟨g2, hg2⟩ : ∃ g2, w.heap.size = g2 := ⟨_, rfl⟩
  obtain ⟨g3, hg3⟩ : ∃ g3, w.heap.size + 1 = g3 := ⟨_, rfl⟩
  rw [hg2] at X2
  rw [hg3] at X3
  rw [hg3, hg2]
  have Z2 : Hid (w.heap.size ≤ g2) := by show _ ≤ _; omega
  have Z3 : Hid (w.heap.size ≤ g3) := by show _ ≤ _; omega
  have Z5 := Lib.hid b1.size
  clear hg3 hg2
  have X5 := Box.new w1 #[.func (.func 56) #[] #[.pointer (some ⟨g3, 0, none⟩)]] 70
  have k5 := belNew w1 (.cells #[.func (.func 56) #[] #[.pointer (some ⟨g3, 0, none⟩)]] 70)
  go_upto_region 2 with fail
  generalize w1.alloc (.cells #[.func (.func 56) #[] #[.pointer (some ⟨g3, 0, none⟩)]] 70) = w5 at X5 k5 ⊢
  have Z6 : Hid (w.heap.size ≤ w5.heap.size) := by have := Z5.out; have := k5.size; show _ ≤ _; omega
  generalize w1.heap.size = g5 at X5 Z5 ⊢
  have X6 := Box.new w5 #[.func (.func 57) #[] #[.pointer (some ⟨g5, 0, none⟩)]] 71
  have k6 := belNew w5 (.cells #[.func (.func 57) #[] #[.pointer (some ⟨g5, 0, none⟩)]] 71)
  go_upto_region 3 with fail
  generalize w5.alloc (.cells #[.func (.func 57) #[] #[.pointer (some ⟨g5, 0, none⟩)]] 71) = w6 at X6 k6 ⊢
  have Z7 : Hid (w.heap.size ≤ w6.heap.size) := by have := Z6.out; have := k6.size; show _ ≤ _; omega
  generalize w5.heap.size = g6 at X6 Z6 ⊢
  have X7 := Box.new w6 #[.func (.func 58) #[] #[.pointer (some ⟨g6, 0, none⟩), .pointer (some ⟨g5, 0, none⟩)]] 71
  have k7 := belNew w6 (.cells #[.func (.func 58) #[] #[.pointer (some ⟨g6, 0, none⟩), .pointer (some ⟨g5, 0, none⟩)]] 71)
  go_upto_region 4 with fail
  generalize w6.alloc (.cells #[.func (.func 58) #[] #[.pointer (some ⟨g6, 0, none⟩), .pointer (some ⟨g5, 0, none⟩)]] 71) = w7 at X7 k7 ⊢
  have ZR : Hid (w.heap.size ≤ w7.heap.size) := by have := Z7.out; have := k7.size; show _ ≤ _; omega
  generalize w6.heap.size = g7 at X7 Z7 ⊢
  have d6 := (X6.later k7).cell 0 (.func (.func 57) #[] #[.pointer (some ⟨g5, 0, none⟩)]) rfl
  have d7 := X7.cell 0 (.func (.func 58) #[] #[.pointer (some ⟨g6, 0, none⟩), .pointer (some ⟨g5, 0, none⟩)]) rfl
  have XR := Box.new w7 #[.nilFunc, .func (.func 57) #[] #[.pointer (some ⟨g5, 0, none⟩)], .func (.func 60) #[] #[.pointer (some ⟨g2, 0, none⟩)], .func (.func 59) #[] #[.pointer (some ⟨g7, 0, none⟩), .pointer (some ⟨g5, 0, none⟩)], .func (.func 59) #[] #[.pointer (some ⟨g7, 0, none⟩), .pointer (some ⟨g5, 0, none⟩)], .func (.func 58) #[] #[.pointer (some ⟨g6, 0, none⟩), .pointer (some ⟨g5, 0, none⟩)]] 71
  have kR := belNew w7 (.cells #[.nilFunc, .func (.func 57) #[] #[.pointer (some ⟨g5, 0, none⟩)], .func (.func 60) #[] #[.pointer (some ⟨g2, 0, none⟩)], .func (.func 59) #[] #[.pointer (some ⟨g7, 0, none⟩), .pointer (some ⟨g5, 0, none⟩)], .func (.func 59) #[] #[.pointer (some ⟨g7, 0, none⟩), .pointer (some ⟨g5, 0, none⟩)], .func (.func 58) #[] #[.pointer (some ⟨g6, 0, none⟩), .pointer (some ⟨g5, 0, none⟩)]] 71)
  have j7 := k6.trans (k7.mono k6.size)
  have j5 := k5.trans (j7.mono k5.size)
  have jE := j5.trans (kR.mono j5.size)
  have HW := Lib.hid (Wn.mk (f := f) (n := n) (HM.out.later jE) ((X2.later jE).cell 0 _ rfl) ((X3.later jE).cell 0 _ rfl) ((X5.later (j7.trans (kR.mono j7.size))).cell 0 _ rfl) ((X6.later (k7.trans (kR.mono k7.size))).cell 0 _ rfl) ((X7.later kR).cell 0 _ rfl) (HR.out.later jE))
  have HC := Lib.hid (show (w7.alloc (.cells #[.nilFunc, .func (.func 57) #[] #[.pointer (some ⟨g5, 0, none⟩)], .func (.func 60) #[] #[.pointer (some ⟨g2, 0, none⟩)], .func (.func 59) #[] #[.pointer (some ⟨g7, 0, none⟩), .pointer (some ⟨g5, 0, none⟩)], .func (.func 59) #[] #[.pointer (some ⟨g7, 0, none⟩), .pointer (some ⟨g5, 0, none⟩)], .func (.func 58) #[] #[.pointer (some ⟨g6, 0, none⟩), .pointer (some ⟨g5, 0, none⟩)]] 71)).cell? ⟨w7.heap.size, 1, none⟩ = some (.func (.func 57) #[] #[.pointer (some ⟨g5, 0, none⟩)]) ∧ (w7.alloc (.cells #[.nilFunc, .func (.func 57) #[] #[.pointer (some ⟨g5, 0, none⟩)], .func (.func 60) #[] #[.pointer (some ⟨g2, 0, none⟩)], .func (.func 59) #[] #[.pointer (some ⟨g7, 0, none⟩), .pointer (some ⟨g5, 0, none⟩)], .func (.func 59) #[] #[.pointer (some ⟨g7, 0, none⟩), .pointer (some ⟨g5, 0, none⟩)], .func (.func 58) #[] #[.pointer (some ⟨g6, 0, none⟩), .pointer (some ⟨g5, 0, none⟩)]] 71)).cell? ⟨w7.heap.size, 2, none⟩ = some (.func (.func 60) #[] #[.pointer (some ⟨g2, 0, none⟩)]) ∧ (w7.alloc (.cells #[.nilFunc, .func (.func 57) #[] #[.pointer (some ⟨g5, 0, none⟩)], .func (.func 60) #[] #[.pointer (some ⟨g2, 0, none⟩)], .func (.func 59) #[] #[.pointer (some ⟨g7, 0, none⟩), .pointer (some ⟨g5, 0, none⟩)], .func (.func 59) #[] #[.pointer (some ⟨g7, 0, none⟩), .pointer (some ⟨g5, 0, none⟩)], .func (.func 58) #[] #[.pointer (some ⟨g6, 0, none⟩), .pointer (some ⟨g5, 0, none⟩)]] 71)).cell? ⟨w7.heap.size, 3, none⟩ = some (.func (.func 59) #[] #[.pointer (some ⟨g7, 0, none⟩), .pointer (some ⟨g5, 0, none⟩)]) ∧ (w7.alloc (.cells #[.nilFunc, .func (.func 57) #[] #[.pointer (some ⟨g5, 0, none⟩)], .func (.func 60) #[] #[.pointer (some ⟨g2, 0, none⟩)], .func (.func 59) #[] #[.pointer (some ⟨g7, 0, none⟩), .pointer (some ⟨g5, 0, none⟩)], .func (.func 59) #[] #[.pointer (some ⟨g7, 0, none⟩), .pointer (some ⟨g5, 0, none⟩)], .func (.func 58) #[] #[.pointer (some ⟨g6, 0, none⟩), .pointer (some ⟨g5, 0, none⟩)]] 71)).cell? ⟨w7.heap.size, 4, none⟩ = some (.func (.func 59) #[] #[.pointer (some ⟨g7, 0, none⟩), .pointer (some ⟨g5, 0, none⟩)]) ∧ (w7.alloc (.cells #[.nilFunc, .func (.func 57) #[] #[.pointer (some ⟨g5, 0, none⟩)], .func (.func 60) #[] #[.pointer (some ⟨g2, 0, none⟩)], .func (.func 59) #[] #[.pointer (some ⟨g7, 0, none⟩), .pointer (some ⟨g5, 0, none⟩)], .func (.func 59) #[] #[.pointer (some ⟨g7, 0, none⟩), .pointer (some ⟨g5, 0, none⟩)], .func (.func 58) #[] #[.pointer (some ⟨g6, 0, none⟩), .pointer (some ⟨g5, 0, none⟩)]] 71)).cell? ⟨w7.heap.size, 5, none⟩ = some (.func (.func 58) #[] #[.pointer (some ⟨g6, 0, none⟩), .pointer (some ⟨g5, 0, none⟩)]) from ⟨XR.cell 1 _ rfl, XR.cell 2 _ rfl, XR.cell 3 _ rfl, XR.cell 4 _ rfl, XR.cell 5 _ rfl⟩)
  have HE := Lib.hid (b1.trans (jE.mono b1.size))
  clear X2 X3 X5 X6 X7 XR k5 k6 k7 kR j5 j7 jE b1 HM HR
  go_wp2
  go_ret
  exact ⟨g2, g3, g5, g6, g7, w7.heap.size, rfl, HW.out, HC.out, ⟨Z2.out, Z3.out, Z5.out, Z6.out, Z7.out, ZR.out⟩, HE.out⟩

end Go.Proofs.YtahebgceoidebaaGreat

/- How bools lie in memory. -/
namespace Go.Proofs.YtahebgceoidebaaGreat
open Go.RowKit

def boE : Enc Bool where
  ty := 4
  sty := 28
  sz := 1
  bytes := 1
  zero := .bool false
  f := fun n => [.bool n]
  len := fun _ => rfl
  pos := by decide
  one := fun _ u hu => by simp at hu; subst hu; rfl
  und := Tryz.underlying28
  info := by kernel_rfl
  zc := rfl
  z0 := false
  zf := rfl

end Go.Proofs.YtahebgceoidebaaGreat
