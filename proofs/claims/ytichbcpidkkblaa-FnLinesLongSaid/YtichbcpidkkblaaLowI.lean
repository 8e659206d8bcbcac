/- Lower letters: LowWord of the program. -/
import Derived.Test.YtichbcpidkkblaaLowS
import Derived.Test.YtichbcpidkkblaaBld3
namespace Go.Proofs.Ytichbcpidkkblaa
open Go.RowKit

theorem BtAt.same {w w' : World} {g : Nat} {l : List UInt8} (h : BtAt w g l) (e : w'.heap[g]? = w.heap[g]?) : BtAt w' g l := by
  intro j b hj
  have := h j b hj
  simpa [World.cell?, World.frozen?, e] using this

theorem Bld.new (w : World) : Bld (w.heap.size + 1) w.heap.size [] (w.alloc (.cells #[.pointer none, .slice none 0 0] 41)) :=
  ⟨by omega, _, _, .inl rfl, Box.new w _ _, ⟨rfl, .inl ⟨rfl, rfl⟩⟩⟩

theorem Bld.from {B C b : Nat} {w : World} (h : Bld B b [] w) (hC : B ≤ C) (h0 : w.cell? ⟨b, 1, none⟩ = some (.slice none 0 0)) : Bld C b [] w := by
  obtain ⟨h1, p, v, h2, h3, h4⟩ := h
  have e := h3.cell 1 _ rfl
  rw [h0] at e
  cases Option.some.inj e
  exact ⟨by omega, p, _, h2, h3, ⟨rfl, .inl ⟨rfl, rfl⟩⟩⟩

set_option maxRecDepth 100000 in
set_option maxHeartbeats 4000000 in
theorem implLowWord_any (s : ByteArray) (w : World) (hs : s.size ≤ 1099511627776) :
    Calls Try.prog 18 #[.string s] w fun e w' => e = .returned (.string (lowW s)) ∧ Below w.heap.size w w' := by
  have hconv : ∀ wx, (convert 9 22 (.string s)).run Try.prog wx = .ok (.slice (some ⟨wx.heap.size, 0, none⟩) s.size (grownCap wx s.size 0 5)) (Lib.bytesWorld wx 5 s) :=
    fun wx => Lib.run_convert_string_bytes (P := Try.prog) wx 9 22 5 s Try.underlying9 Try.underlying22 Try.underlying5
  have hb := below_bt (w.alloc (.cells #[.pointer none, .slice none 0 0] 41)) s
  have hbz := Lib.bytesWorld_size (w.alloc (.cells #[.pointer none, .slice none 0 0] 41)) 5 s
  have hat := btAt_new (w.alloc (.cells #[.pointer none, .slice none 0 0] 41)) s.data.toList
  rw [ba_self] at hat
  have hnew := Bld.new w
  have hcell : (w.alloc (.cells #[.pointer none, .slice none 0 0] 41)).cell? ⟨w.heap.size, 1, none⟩ = some (.slice none 0 0) := (Box.new w _ _).cell 1 _ rfl
  have hk0 : Below w.heap.size w (w.alloc (.cells #[.pointer none, .slice none 0 0] 41)) := (Below.refl _ _).alloc (Nat.le_refl _) _
  have hlen : s.data.toList.length = s.size := by rw [Array.length_toList]; rfl
  obtain ⟨l, hl⟩ : ∃ l, s.data.toList = l := ⟨_, rfl⟩
  have hlw : lowW s = ⟨(l.map lowB).toArray⟩ := by unfold lowW; rw [hl]
  rw [hlw]
  rw [hl] at hat hlen
  clear hl hlw
  have hz0 : (w.alloc (.cells #[.pointer none, .slice none 0 0] 41)).heap.size = w.heap.size + 1 := by simp
  go_enter Try.func18, Try.ntmps18
  go_upto_region 2 with fail
  generalize w.alloc (.cells #[.pointer none, .slice none 0 0] 41) = w0 at *
  obtain ⟨g, hg⟩ : ∃ g, w.heap.size = g := ⟨_, rfl⟩
  have HG := Lib.hid hg
  rw [hg] at hnew hcell hz0 hk0 ⊢
  rw [hz0] at hat hb
  have hc0 := hconv w0
  rw [hz0] at hc0
  clear hconv hg
  generalize grownCap w0 s.size 0 5 = C at *
  have hbz' : (Lib.bytesWorld w0 5 s).heap.size = g + 2 := by rw [hbz, hz0]
  clear hbz
  generalize Lib.bytesWorld w0 5 s = w1 at *
  generalize s.size = n at *
  have hB1 : Bld (g + 2) g [] w1 := (hnew.later (by rw [hz0]; exact hb)).from (by omega) (by rw [World.cell?, hb.block g (by omega)]; exact hcell)
  have HK1 : Hid (Below g w w1) := hk0.trans (hb.mono (by omega))
  have HL := Lib.hid hlen
  clear hnew hcell hk0 hb hlen
  go_upto_region 3 with fail
  clear hc0 hz0
  go_loopw [9] (fun iv wr => ∃ i : Nat, i ≤ n ∧ iv = .int .i64 (i : Int) ∧ Bld (g + 2) g (Lib.byteCells ((l.take i).map lowB)) wr ∧ BelBut (g + 2) g w1 wr) (fun iv _ => n - (intOf iv).toNat)
  case atStart => exact ⟨0, by omega, rfl, by simpa [Lib.byteCells] using hB1, BelBut.refl _ _ _⟩
  case round =>
    obtain ⟨i, hi, rfl, hA, hB⟩ := hrel
    have HA := Lib.hid hA
    have HB := Lib.hid hB
    have HBZ := Lib.hid hbz'
    have HAT := Lib.hid hat
    clear hA hB hat hB1 hbz'
    by_cases hlt : i < n
    · have hi0 : (0 : Int) ≤ (i : Int) := by omega
      have hi1 : (i : Int) < (n : Int) := by omega
      have hil : i < l.length := by have := HL.out; omega
      obtain ⟨p0, f0⟩ := (HAT.out.same (HB.out.block (g + 1) (by omega) (by omega))) i _ (List.getElem?_eq_getElem hil)
      have hsz : g + 2 ≤ wr.heap.size := by have := HB.out.size; have := HBZ.out; omega
      have hW := bldByte2 (g + 2) g (Lib.byteCells ((l.take i).map lowB)) ((lowB l[i]).toNat : Int) wr HA.out (by rw [byteC_len, List.length_map, List.length_take]; omega) hsz
      have hnx : Lib.byteCells ((l.take i).map lowB) ++ [Value.int .u8 ((lowB l[i]).toNat : Int)] = Lib.byteCells ((l.take (i + 1)).map lowB) := by
        rw [List.take_succ_eq_append_getElem hil]; simp only [Lib.byteCells, List.map_append, List.map_cons, List.map_nil]
      rw [hnx] at hW
      clear hnx
      have HW := Lib.hid hW
      clear hW f0
      have HUP : Hid (65 ≤ l[i].toNat → l[i].toNat ≤ 90 → ((lowB l[i]).toNat : Int) = (l[i].toNat : Int) + 32) := fun a b => lowB_up a b
      have HNO : Hid (¬ (65 ≤ l[i].toNat ∧ l[i].toNat ≤ 90) → lowB l[i] = l[i]) := fun h => by rw [lowB, if_neg h]
      generalize l[i] = b at *
      generalize lowB b = c at *
      by_cases u1 : 65 ≤ b.toNat
      · have v1 : (65 : Int) ≤ (b.toNat : Int) := by omega
        by_cases u2 : b.toNat ≤ 90
        · have v2 : (b.toNat : Int) ≤ 90 := by omega
          have hc := HUP.out u1 u2
          rw [hc] at HW
          have hw : IntKind.u8.wrap ((b.toNat : Int) + 32) = (b.toNat : Int) + 32 := IntWalk.u8_in _ ⟨by omega, by omega⟩
          clear hc u1 u2 hil
          generalize (b.toNat : Int) = y at *
          go_wp2_with (go_at_call 26; refine HW.out.mono ?_; rintro e w2 ⟨rfl, hb2, hk2⟩; have HB2 := Lib.hid hb2; have HK2 := Lib.hid (HB.out.trans hk2); clear hb2 hk2)
          go_roundw
          case rel => exact ⟨i + 1, by omega, by go_num, HB2.out, HK2.out⟩
          case measure => simp [intOf]; omega
        · have v2 : ¬ ((b.toNat : Int) ≤ 90) := by omega
          have e := HNO.out (fun h => u2 h.2)
          rw [e] at HW
          clear u1 u2 hil e HNO HUP
          generalize (b.toNat : Int) = y at *
          go_wp2_with (go_at_call 26; refine HW.out.mono ?_; rintro e w2 ⟨rfl, hb2, hk2⟩; have HB2 := Lib.hid hb2; have HK2 := Lib.hid (HB.out.trans hk2); clear hb2 hk2)
          go_roundw
          case rel => exact ⟨i + 1, by omega, by go_num, HB2.out, HK2.out⟩
          case measure => simp [intOf]; omega
      · have v1 : ¬ ((65 : Int) ≤ (b.toNat : Int)) := by omega
        have e := HNO.out (fun h => u1 h.1)
        rw [e] at HW
        clear u1 hil e HNO HUP
        generalize (b.toNat : Int) = y at *
        go_wp2_with (go_at_call 26; refine HW.out.mono ?_; rintro e w2 ⟨rfl, hb2, hk2⟩; have HB2 := Lib.hid hb2; have HK2 := Lib.hid (HB.out.trans hk2); clear hb2 hk2)
        go_roundw
        case rel => exact ⟨i + 1, by omega, by go_num, HB2.out, HK2.out⟩
        case measure => simp [intOf]; omega
    · have e : l.take i = l := by rw [List.take_of_length_le]; have := HL.out; omega
      have HA' := HA.out
      rw [e] at HA'
      have HS := Lib.hid (bldString2 g (l.map lowB) wr HA'.toF (by have := HB.out.size; have := HBZ.out; omega))
      have HKB : Hid (Below g w wr) := HK1.out.trans (HB.out.below (by omega) (by omega))
      clear e HA'
      go_wp2_with (go_at_call 28; refine HS.out.mono ?_; rintro e w2 ⟨rfl, _, hk2⟩; have HK2 := Lib.hid (HKB.out.trans hk2); clear hk2)
      go_ret
      exact ⟨rfl, by rw [HG.out]; exact HK2.out⟩

end Go.Proofs.Ytichbcpidkkblaa
