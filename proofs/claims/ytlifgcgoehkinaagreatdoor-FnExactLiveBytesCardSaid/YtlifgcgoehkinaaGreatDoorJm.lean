/- Texts of our own, joined. -/
import Derived.Test.YtlifgcgoehkinaaGreatDoorJa
import Derived.Test.YtlifgcgoehkinaaGreatDoorJl
import Derived.Lib.ItoaMem
import Derived.Lib.LaidTab
import Derived.Lib.AppendIntMem
import Derived.WalkSpells
import Derived.WalkSmall
/- Check sums: what SumMore, SumOf and the four bytes of a sum are. -/
namespace Go.Proofs.YtlifgcgoehkinaaGreatDoor
open Go.RowKit

def sumTabI : List Int := sumTab.map fun n : Nat => (n : Int)
def SumTab (w : World) : Prop := Lib.TabIs Tryz.prog w "loop.example/g00287/impl.sumTable" .u32 sumTabI

theorem SumTab.at {w : World} (h : SumTab w) (k : Nat) (hk : k < 16) : w.cell? ⟨0, k, none⟩ = some (.int .u32 ((halves 4 k : Nat) : Int)) := by
  have h1 := Lib.TabIs.cell h (g := 0) (by kernel_rfl) k (by simpa [sumTabI, sumTab] using hk)
  have h2 := sumTab_at k hk
  have h3 : sumTabI.getD k 0 = ((halves 4 k : Nat) : Int) := by
    rw [sumTabI, List.getD, List.getElem?_map, h2]; rfl
  rw [h1, h3]

set_option maxHeartbeats 1000000 in
theorem with_any (s : Nat) (b : UInt8) (w : World) (hs : s < 4294967296) (ht : SumTab w) :
    Calls Tryz.prog 110 #[.int .u32 (s : Int), .int .u8 (b.toNat : Int)] w fun e w' => e = .returned (.int .u32 ((sumB s b : Nat) : Int)) ∧ w = w' := by
  have hb := u8_lt b
  have hsb := Lib.hid (show sumB s b = halves 4 (halves 4 (s ^^^ b.toNat)) from halves_add 4 4 _)
  have hal := xorB_lt hs b
  have hx : bits .xor .u32 (s : Int) (b.toNat : Int) = ((s ^^^ b.toNat : Nat) : Int) := u32_xor_nat _ _ hs (by omega)
  generalize ea : s ^^^ b.toNat = a at hx hsb hal
  have hk : bits .and .u32 (a : Int) 15 = ((a % 16 : Nat) : Int) := by
    have := u32_and_nat a 15 hal (by decide); rw [nat_mask4] at this; exact this
  have hc := ht.at (a % 16) (by omega)
  have hl1 := halves_lt 4 (n := a % 16) (by omega)
  have hx2 : bits .xor .u32 ((a : Int) / 16) ((halves 4 (a % 16) : Nat) : Int) = ((halves 4 a : Nat) : Int) := by
    have := u32_xor_nat (a / 16) (halves 4 (a % 16)) (by omega) hl1
    rw [← halves4] at this; exact this
  have hl2 := halves_lt 4 (n := a) hal
  have hk1 : a % 16 < 16 := by omega
  generalize et : halves 4 (a % 16) = t at hx2 hc hl1
  generalize ek : a % 16 = k at hk hc hk1
  generalize ea2 : halves 4 a = a2 at hx2 hsb hl2
  have hk2 : bits .and .u32 (a2 : Int) 15 = ((a2 % 16 : Nat) : Int) := by
    have := u32_and_nat a2 15 hl2 (by decide); rw [nat_mask4] at this; exact this
  have hc2 := ht.at (a2 % 16) (by omega)
  have hl3 := halves_lt 4 (n := a2 % 16) (by omega)
  have hx4 : bits .xor .u32 ((a2 : Int) / 16) ((halves 4 (a2 % 16) : Nat) : Int) = ((halves 4 a2 : Nat) : Int) := by
    have := u32_xor_nat (a2 / 16) (halves 4 (a2 % 16)) (by omega) hl3
    rw [← halves4] at this; exact this
  have hk3 : a2 % 16 < 16 := by omega
  generalize et2 : halves 4 (a2 % 16) = t2 at hx4 hc2 hl3
  generalize ek2 : a2 % 16 = k2 at hk2 hc2 hk3
  clear ea ek ek2 et et2 ea2 ht
  go_enter Tryz.func110, Tryz.ntmps110
  go_wp2
  go_ret
  exact ⟨by rw [hsb.out]; rfl, rfl⟩

theorem index_atS (s : ByteArray) (k : Nat) (h : k < s.size) (wx : World) :
    (Instr.index 9 (.string s) (.int .i64 (k : Int))).run Tryz.prog wx = .ok (.int .u8 (s[k].toNat : Int)) wx := by
  have hu := Tryz.underlying9
  simp [Instr.index, run_underlying hu, go_sem, h]

theorem sumL_all {s : Nat} {t : ByteArray} {k : Nat} (h : ¬ k < t.size) : sumL s (t.data.toList.take k) = sumL s t.data.toList := by
  rw [List.take_of_length_le (by simp; omega)]

theorem SumTab.later {w w' : World} (h : SumTab w) (hb : Below w.heap.size w w') : SumTab w' := Lib.tabBelow_of_tabIs h w' hb

set_option maxRecDepth 100000 in
set_option maxHeartbeats 1000000 in
theorem implSumMore_any (s : Nat) (t : ByteArray) (w : World) (hs : s < 4294967296) (hz : t.size ≤ 1099511627776) (ht : SumTab w) :
    Calls Tryz.prog 106 #[.int .u32 (s : Int), .string t] w fun e w' => e = .returned (.int .u32 ((sumL s t.data.toList : Nat) : Int)) ∧ Below w.heap.size w w' := by
  have hconv : ∀ wx, (convert 9 106 (.string t)).run Tryz.prog wx = .ok (.slice (some ⟨wx.heap.size, 0, none⟩) t.size (grownCap wx t.size 0 5)) (Lib.bytesWorld wx 5 t) :=
    fun wx => Lib.run_convert_string_bytes (P := Tryz.prog) wx 9 106 5 t Tryz.underlying9 Tryz.underlying106 Tryz.underlying5
  have hbel : Below w.heap.size w (Lib.bytesWorld w 5 t) :=
    (Below.refl _ _).grown (⟨rfl, rfl, rfl, by rw [Lib.bytesWorld_size]; omega, fun k hk _ => Lib.bytesWorld_at_old w 5 t k hk⟩ : w.grownBy (Lib.bytesWorld w 5 t) none) (Nat.le_refl _) (fun k hk => by cases hk)
  have ht2 := ht.later hbel
  obtain ⟨o, ho1, ho2⟩ := bytes_block w t
  have hcells := ho2 _ ho1
  go_enter Tryz.func106, Tryz.ntmps106
  go_wp2
  clear hconv ho1 ho2 ht
  generalize hbw : Lib.bytesWorld w 5 t = w2 at *
  clear hbw
  go_loopw [5, 12] (fun sv iv wr => ∃ k : Nat, k ≤ t.size ∧ iv = .int .i64 k ∧ sv = .int .u32 ((sumL s (t.data.toList.take k) : Nat) : Int) ∧ wr = w2) (fun _ iv _ => t.size - (intOf iv).toNat)
  case atStart => exact ⟨0, by omega, rfl, rfl, rfl⟩
  case round =>
    obtain ⟨k, hk, rfl, rfl, rfl⟩ := hrel
    by_cases hlt : k < t.size
    · have hcell := hcells k hlt
      have hn := Lib.hid (sumL_take (s := s) (l := t.data.toList) (k := k) (by simpa using hlt))
      have hl := sumL_lt hs (t.data.toList.take k)
      generalize sumL s (t.data.toList.take k) = m at *
      clear hcells
      go_wp2_with (go_at_call 110; refine (with_any m _ _ hl ht2).mono ?_; rintro e w' ⟨rfl, rfl⟩)
      go_roundw
      case rel => exact ⟨k + 1, by omega, by go_num, by rw [hn.out]; rfl, trivial⟩
      case measure => simp [intOf]; omega
    · have ha := sumL_all (s := s) hlt
      clear hcells
      go_wp2
      go_ret
      exact ⟨by rw [ha]; rfl, hbel⟩

set_option maxRecDepth 100000 in
set_option maxHeartbeats 1000000 in
theorem specSumMore_any (s : Nat) (t : ByteArray) (w : World) (hs : s < 4294967296) (hz : t.size ≤ 1099511627776) :
    Calls Tryz.prog 100 #[.int .u32 (s : Int), .string t] w fun e w' => e = .returned (.int .u32 ((sumL s t.data.toList : Nat) : Int)) ∧ w = w' := by
  go_enter Tryz.func100, Tryz.ntmps100
  go_wp2
  go_loopw [0, 5] (fun sv iv wr => ∃ k : Nat, k ≤ t.size ∧ iv = .int .i64 k ∧ sv = .int .u32 ((sumL s (t.data.toList.take k) : Nat) : Int) ∧ wr = w) (fun _ iv _ => t.size - (intOf iv).toNat)
  case atStart => exact ⟨0, by omega, rfl, rfl, rfl⟩
  case round =>
    obtain ⟨k, hk, rfl, rfl, rfl⟩ := hrel
    by_cases hlt : k < t.size
    · have hidx := index_atS t k hlt
      have hn := Lib.hid (sumL_take (s := s) (l := t.data.toList) (k := k) (by simpa using hlt))
      have hl := sumL_lt hs (t.data.toList.take k)
      generalize sumL s (t.data.toList.take k) = m at *
      have hb := u8_lt t[k]
      have hx : bits .xor .u32 (m : Int) (t[k].toNat : Int) = ((m ^^^ t[k].toNat : Nat) : Int) := u32_xor_nat _ _ hl (by omega)
      have hml := xorB_lt hl t[k]
      have hsb := Lib.hid (show sumB m t[k] = halves 8 (m ^^^ t[k].toNat) from rfl)
      generalize m ^^^ t[k].toNat = a at *
      go_wp2
      go_loopw [0, 6] (fun sv iv wx => ∃ j : Nat, j ≤ 8 ∧ iv = .int .i64 j ∧ sv = .int .u32 ((halves j a : Nat) : Int) ∧ wx = wr) (fun _ iv _ => 8 - (intOf iv).toNat)
      case atStart => exact ⟨0, by omega, rfl, rfl, rfl⟩
      case round =>
        obtain ⟨j, hj, rfl, rfl, rfl⟩ := hrel
        by_cases hj8 : j < 8
        · have hh := Lib.hid (halves_succ j a)
          have hjl := halves_lt j hml
          generalize halves j a = c at *
          by_cases ho : c % 2 = 1
          · have hm : (c : Int) % 2 = 1 := by omega
            have hx2 : bits .xor .u32 ((c : Int) / 2) 3558460437 = ((half c : Nat) : Int) := by
              rw [half_odd ho]; exact u32_xor_nat (c / 2) 3558460437 (by omega) (by decide)
            go_wp2
            go_roundw
            case rel => exact ⟨j + 1, by omega, by go_num, by rw [hh.out], trivial⟩
            case measure => simp [intOf]; omega
          · have hm : (c : Int) % 2 = 0 := by omega
            have he := half_even ho
            go_wp2
            go_roundw
            case rel => exact ⟨j + 1, by omega, by go_num, by rw [hh.out, he]; rfl, trivial⟩
            case measure => simp [intOf]; omega
        · obtain rfl : j = 8 := by omega
          go_wp2
          go_roundw
          case rel => exact ⟨k + 1, by omega, by go_num, by rw [hn.out]; exact congrArg (fun n : Nat => Value.int .u32 (n : Int)) hsb.out.symm, trivial⟩
          case measure => simp [intOf]; omega
    · have ha := sumL_all (s := s) hlt
      go_wp2
      go_ret
      exact ⟨by rw [ha]; rfl, rfl⟩

theorem implSumOf_any (t : ByteArray) (w : World) (hz : t.size ≤ 1099511627776) (ht : SumTab w) :
    Calls Tryz.prog 96 #[.string t] w fun e w' => e = .returned (.int .u32 ((sumL 4294967295 t.data.toList : Nat) : Int)) ∧ Below w.heap.size w w' := by
  go_enter Tryz.func96, Tryz.ntmps96
  go_wp2_with (go_at_call 106; refine (implSumMore_any 4294967295 t _ (by decide) hz ht).mono ?_; rintro e w1 ⟨rfl, hb1⟩)
  go_ret
  exact ⟨rfl, hb1⟩

theorem specSumOf_any (t : ByteArray) (w : World) (hz : t.size ≤ 1099511627776) :
    Calls Tryz.prog 81 #[.string t] w fun e w' => e = .returned (.int .u32 ((sumL 4294967295 t.data.toList : Nat) : Int)) ∧ w = w' := by
  go_enter Tryz.func81, Tryz.ntmps81
  go_wp2_with (go_at_call 100; refine (specSumMore_any 4294967295 t _ (by decide) hz).mono ?_; rintro e w1 ⟨rfl, rfl⟩)
  go_ret
  exact ⟨rfl, rfl⟩

theorem four_conv (n : Nat) (w : World) (hn : n < 4294967296) :
    (convert 106 9 (.slice (some ⟨w.heap.size, 0, none⟩) 4 4)).run Tryz.prog (w.alloc (.cells #[.int .u8 ((n : Int) / 16777216), .int .u8 ((n : Int) / 65536 % 256), .int .u8 ((n : Int) / 256 % 256), .int .u8 ((n : Int) % 256)] 5))
      = .ok (.string ⟨(four n).toArray⟩) (w.alloc (.cells #[.int .u8 ((n : Int) / 16777216), .int .u8 ((n : Int) / 65536 % 256), .int .u8 ((n : Int) / 256 % 256), .int .u8 ((n : Int) % 256)] 5)) := by
  refine run_convert_bytes_back (P := Tryz.prog) _ 106 9 5 ⟨w.heap.size, 0, none⟩ 4 (four n) Tryz.underlying106 Tryz.underlying5 Tryz.underlying9 fun j hj => ?_
  rw [four_length] at hj
  match j, hj with
  | 0, _ => simp [four, Addr.add, UInt8.toNat_ofNat']; omega
  | 1, _ => simp [four, Addr.add, UInt8.toNat_ofNat']
  | 2, _ => simp [four, Addr.add, UInt8.toNat_ofNat']
  | 3, _ => simp [four, Addr.add, UInt8.toNat_ofNat']

theorem specFour_any (n : Nat) (w : World) (hn : n < 4294967296) :
    Calls Tryz.prog 80 #[.int .u32 (n : Int)] w fun e w' => e = .returned (.string ⟨(four n).toArray⟩) ∧ Below w.heap.size w w' := by
  have hc := four_conv n w hn
  go_enter Tryz.func80, Tryz.ntmps80
  go_wp2
  go_ret
  exact ⟨rfl, (Below.refl _ _).alloc (Nat.le_refl _) _⟩

theorem implText_any (n : Nat) (w : World) (hn : n < 4294967296) :
    Calls Tryz.prog 97 #[.int .u32 (n : Int)] w fun e w' => e = .returned (.string ⟨(four n).toArray⟩) ∧ Below w.heap.size w w' := by
  have hc := four_conv n w hn
  go_enter Tryz.func97, Tryz.ntmps97
  go_wp2
  go_ret
  exact ⟨rfl, (Below.refl _ _).alloc (Nat.le_refl _) _⟩

end Go.Proofs.YtlifgcgoehkinaaGreatDoor
