/- Two figures for each byte: what impl.Hex hands back. -/
import Derived.Test.YtpknmloeaiieaaaDoorHex
namespace Go.Proofs.YtpknmloeaiieaaaDoor
open Go.RowKit

theorem index_figures (x : Nat) (h : x < 16) (X : Int) (hX : X = (x : Int)) (wx : World) :
    (Instr.index 9 (.string ⟨#[48, 49, 50, 51, 52, 53, 54, 55, 56, 57, 97, 98, 99, 100, 101, 102]⟩) (.int .u8 X)).run Tryd.prog wx = .ok (.int .u8 ((fig x).toNat : Int)) wx := by
  subst hX
  have h1 := figure_at x h
  have hsz : (⟨#[48, 49, 50, 51, 52, 53, 54, 55, 56, 57, 97, 98, 99, 100, 101, 102]⟩ : ByteArray).size = 16 := rfl
  have h2 := ByteArray.getElem?_lt' ⟨#[48, 49, 50, 51, 52, 53, 54, 55, 56, 57, 97, 98, 99, 100, 101, 102]⟩ x (by rw [hsz]; exact h)
  rw [h1] at h2
  have h3 := Option.some.inj h2
  rw [run_index_string (P := Tryd.prog) (w := wx) 9 _ .u8 (x : Int) Tryd.underlying9, dif_pos ⟨by omega, by rw [hsz]; omega⟩]
  simp only [Int.toNat_natCast]
  rw [h3]

set_option maxRecDepth 100000 in
set_option maxHeartbeats 1000000 in
theorem implHex_any (s : ByteArray) (w : World) (hs : s.size ≤ 1099511627776) :
    Calls Tryd.prog 14 #[.string s] w fun e w' => e = .returned (hexT s) ∧ Below w.heap.size w w' := by
  by_cases h : s.size ≤ 20000
  · have hz : Hid (hexT s = _) := hexT_yes h
    have hconv : ∀ wx, (convert 9 22 (.string s)).run Tryd.prog wx = .ok (.slice (some ⟨wx.heap.size, 0, none⟩) s.size (grownCap wx s.size 0 5)) (Lib.bytesWorld wx 5 s) :=
      fun wx => Lib.run_convert_string_bytes (P := Tryd.prog) wx 9 22 5 s Tryd.underlying9 Tryd.underlying22 Tryd.underlying5
    go_enter Tryd.func14, Tryd.ntmps14
    go_wp2_with (at_make; refine wpList_make_bytes rfl _ _ rfl .i64 .i64 _ (2 * s.size) rfl rfl (by omega) (by omega) ?_; intro w1 g hb1 hg1)
    obtain ⟨o, ho1, ho2⟩ := bytes_block w1 s
    have hb2 := hb1.bytesWorld s
    have hne : (Value.slice (some ⟨g, 0, none⟩) 0 (2 * s.size)).ownBlock ≠ some w1.heap.size := by intro e; have := Option.some.inj e; simp at this; omega
    clear hconv
    generalize hbw : Lib.bytesWorld w1 5 s = w2 at *
    generalize hbb : w1.heap.size = bb at *
    clear hbw hb1 hg1
    go_loopw [4, 17] (fun v iv wr => ∃ k : Nat, k ≤ s.size ∧ iv = .int .i64 k ∧ Buf w.heap.size w wr v (hexOf (s.data.toList.take k)) ∧ wr.heap[bb]? = some o ∧ v.ownBlock ≠ some bb) (fun _ iv _ => s.size - (intOf iv).toNat)
    case atStart => exact ⟨0, by omega, rfl, hb2, ho1, hne⟩
    case round =>
      obtain ⟨k, hk, rfl, hb, hob, hne⟩ := hrel
      by_cases hlt : k < s.size
      · have hcell0 := ho2 wr hob k hlt
        obtain ⟨c, hc0⟩ : ∃ c : Nat, s[k].toNat = c := ⟨_, rfl⟩
        have hc : c < 256 := by rw [← hc0]; exact UInt8.toNat_lt _
        rw [hc0] at hcell0
        have hn : Hid (hexOf (s.data.toList.take (k + 1)) = hexOf (s.data.toList.take k) ++ [fig (c / 16), fig (c % 16)]) := by
          rw [← hc0]; exact hexOf_take (by simpa using hlt)
        have hlen := hexOf_length (s.data.toList.take k)
        have hl2 : (s.data.toList.take k).length ≤ k := List.length_take_le _ _
        have hL : (hexOf (s.data.toList.take k)).length ≤ 40000 := by omega
        have hI : Hid (wr.heap[bb]? = some o ∧ u4.ownBlock ≠ some bb) := ⟨hob, hne⟩
        have hA : bits .and .u8 (c : Int) 15 = (c : Int) % 16 := u8_and15 _ (by omega) (by omega)
        have hx1 := index_figures (c / 16) (by omega) ((c : Int) / 16) (by omega)
        have hx2 := index_figures (c % 16) (by omega) ((c : Int) % 16) (by omega)
        clear hc0 hlen hl2 hob ho1 ho2 hne
        go_wp2
        go_region_held3 (fun _ => True) (trivial) (first
          | (refine step_append_bytes (by rfl) _ _ (by rfl) _ _ _ (by rfl) ((hb.alloc _).drew) ⟨wr.heap.size, 0, none⟩ [fig (c / 16), fig (c % 16)] 2 (by rfl) (two_new _ _ _ _ _ rfl rfl) (by simp; omega) ?_; intro v' w1 hb' hk'))
        all_goals
          have hkb := hk'.block (g := bb) (o := o) (heap_alloc_some hI.out.1 _) hI.out.2
          have hKB : Hid (w1.heap[bb]? = some o ∧ v'.ownBlock ≠ some bb) := hkb
          clear hkb hk'
          go_wp2
          go_roundw
          case rel => exact ⟨k + 1, by omega, by go_num, by rw [hn.out]; exact hb', hKB.out.1, hKB.out.2⟩
          case measure => simp [intOf]; omega
      · have hcv := hb.toString
        clear hob ho1 ho2 hne
        go_wp2
        go_ret2
        exact ⟨by rw [hz.out, hexOf_all hlt]; rfl, hb.bel⟩
  · have hz : Hid (hexT s = _) := hexT_no h
    go_enter Tryd.func14, Tryd.ntmps14
    go_wp2
    go_ret2
    exact ⟨by rw [hz.out]; rfl, Below.refl _ _⟩

theorem hexT_form (s : ByteArray) : ∃ (t : ByteArray) (f : Bool), hexT s = .tuple #[.string t, .bool f] := by
  unfold hexT
  split
  · exact ⟨_, _, rfl⟩
  · exact ⟨_, _, rfl⟩

end Go.Proofs.YtpknmloeaiieaaaDoor
