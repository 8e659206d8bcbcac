/- The values of the figures of a text: what impl.figuresOf hands back. -/
import Derived.Test.YtnaaebbinmpjeaaPlainFig
import Derived.Test.YtnaaebbinmpjeaaKit2
import Derived.WalkSpells
import Derived.WalkSmall
namespace Go.Proofs.Ytnaaebbinmpjeaa
open Go.RowKit

set_option maxRecDepth 100000 in
set_option maxHeartbeats 2000000 in
theorem figuresOf_any (x : Bool) (bs : Int) (s : ByteArray) (w : World) (hx : (bs == 16) = x) (hs : s.size ≤ 1099511627776) :
    Calls Try.prog 36 #[.string s, .int .i64 bs] w fun e w' => ∃ v, e = .returned (.tuple #[v, .bool (decide ((valsOf x s.data.toList).length = s.size))]) ∧ Buf w.heap.size w w' v (valsOf x s.data.toList) := by
  obtain ⟨V, hV0⟩ : ∃ V, valsOf x s.data.toList = V := ⟨_, rfl⟩
  have hV : Hid (valsOf x s.data.toList = V) := hV0
  have hVle : V.length ≤ s.size := by rw [← hV0]; simpa using valsOf_le x s.data.toList
  rw [hV0]
  clear hV0
  have hconv : ∀ wx, (convert 9 32 (.string s)).run Try.prog wx = .ok (.slice (some ⟨wx.heap.size, 0, none⟩) s.size (grownCap wx s.size 0 5)) (Lib.bytesWorld wx 5 s) :=
    fun wx => Lib.run_convert_string_bytes (P := Try.prog) wx 9 32 5 s Try.underlying9 Try.underlying32 Try.underlying5
  go_enter Try.func36, Try.ntmps36
  go_wp2
  go_step3
  go_wp2_with (at_make; refine wpList_make_bytes rfl _ _ rfl .i64 .i64 _ s.size rfl rfl rfl (by omega) ?_; intro w1 g hb1 hg1)
  go_step3
  go_wp2
  obtain ⟨o, ho1, ho2⟩ := bytes_block w1 s
  have hb2 := hb1.bytesWorld s
  have hne : (Value.slice (some ⟨g, 0, none⟩) 0 s.size).ownBlock ≠ some w1.heap.size := by intro e; have := Option.some.inj e; simp at this; omega
  clear hconv
  generalize hbw : Lib.bytesWorld w1 5 s = w2 at *
  generalize hbb : w1.heap.size = bb at *
  clear hbw hb1 hg1
  go_loopw [6, 15] (fun v iv wr => ∃ k : Nat, k ≤ V.length ∧ iv = .int .i64 k ∧ Buf w.heap.size w wr v (V.take k) ∧ wr.heap[bb]? = some o ∧ v.ownBlock ≠ some bb) (fun _ iv _ => s.size - (intOf iv).toNat)
  case atStart => exact ⟨0, by omega, rfl, hb2, ho1, hne⟩
  case round =>
    obtain ⟨k, hk, rfl, hb, hob, hne⟩ := hrel
    by_cases hlt : k < s.size
    · have hcell0 := ho2 wr hob k hlt
      have hl1 : k < s.data.toList.length := by simpa using hlt
      have hI : Hid (wr.heap[bb]? = some o ∧ u6.ownBlock ≠ some bb) := ⟨hob, hne⟩
      have hc256 : s[k].toNat < 256 := UInt8.toNat_lt _
      clear ho1 ho2 hob hne
      by_cases h1 : 48 ≤ s[k].toNat ∧ s[k].toNat ≤ 57
      · have hq := valsOf_some (x := x) (l := s.data.toList) (k := k) (by rw [hV.out]; exact hk) hl1 (digV_dec (x := x) (c := s.data.toList[k]) h1.1 h1.2)
        rw [hV.out] at hq
        obtain ⟨b, hb0⟩ : ∃ b : UInt8, UInt8.ofNat (s.data.toList[k].toNat - 48) = b := ⟨_, rfl⟩
        rw [hb0] at hq
        have hbn : Hid ((b.toNat : Int) = (s[k].toNat : Int) - 48) := by
          rw [← hb0, UInt8.toNat_ofNat']; show (((s[k].toNat - 48) % 2 ^ 8 : Nat) : Int) = _; omega
        have hT : Hid (V.take (k + 1) = V.take k ++ [b]) := take_next hq
        have hk1 : k + 1 ≤ V.length := (List.getElem?_eq_some_iff.1 hq).1
        have hL : (V.take k).length ≤ k := List.length_take_le _ _
        obtain ⟨h2, h3⟩ := h1
        clear hq hb0
        go_wp2_with (at_builtin; refine wpList_append_kept rfl _ _ rfl _ _ _ rfl (hb.alloc _) ⟨wr.heap.size, 0, none⟩ [b] 1 rfl ?c1 ?c2 ?_)
        case c1 => exact one_new _ _ _ (by rw [hbn.out])
        case c2 => simp; omega
        intro v' w1 hb' hk'
        have hKB : Hid (w1.heap[bb]? = some o ∧ v'.ownBlock ≠ some bb) := hk'.block (heap_alloc_some hI.out.1 _) hI.out.2
        clear hk' hcell0
        go_wp2
        go_roundw
        case rel => exact ⟨k + 1, by omega, by go_num, by rw [hT.out]; exact hb', hKB.out.1, hKB.out.2⟩
        case measure => simp [intOf]; omega
      · by_cases h4 : x = true ∧ 97 ≤ s[k].toNat ∧ s[k].toNat ≤ 102
        · obtain ⟨rfl, h2, h3⟩ := h4
          have hq := valsOf_some (x := true) (l := s.data.toList) (k := k) (by rw [hV.out]; exact hk) hl1 (digV_hex (c := s.data.toList[k]) h2 h3)
          rw [hV.out] at hq
          obtain ⟨b, hb0⟩ : ∃ b : UInt8, UInt8.ofNat (s.data.toList[k].toNat - 87) = b := ⟨_, rfl⟩
          rw [hb0] at hq
          have hbn : Hid ((b.toNat : Int) = (s[k].toNat : Int) - 97 + 10) := by
            rw [← hb0, UInt8.toNat_ofNat']; show (((s[k].toNat - 87) % 2 ^ 8 : Nat) : Int) = _; omega
          have hT : Hid (V.take (k + 1) = V.take k ++ [b]) := take_next hq
          have hk1 : k + 1 ≤ V.length := (List.getElem?_eq_some_iff.1 hq).1
          have hL : (V.take k).length ≤ k := List.length_take_le _ _
          clear hq hb0 h1
          go_wp2_with (at_builtin; refine wpList_append_kept rfl _ _ rfl _ _ _ rfl (hb.alloc _) ⟨wr.heap.size, 0, none⟩ [b] 1 rfl ?d1 ?d2 ?_)
          case d1 => exact one_new _ _ _ (by rw [hbn.out])
          case d2 => simp; omega
          intro v' w1 hb' hk'
          have hKB : Hid (w1.heap[bb]? = some o ∧ v'.ownBlock ≠ some bb) := hk'.block (heap_alloc_some hI.out.1 _) hI.out.2
          clear hk' hcell0
          go_wp2
          go_roundw
          case rel => exact ⟨k + 1, by omega, by go_num, by rw [hT.out]; exact hb', hKB.out.1, hKB.out.2⟩
          case measure => simp [intOf]; omega
        · have hq := valsOf_none (x := x) (l := s.data.toList) (k := k) (by rw [hV.out]; exact hk) hl1 (digV_bad (c := s.data.toList[k]) h1 h4)
          rw [hV.out] at hq
          rw [List.take_of_length_le (by omega)] at hb
          obtain ⟨a, cap, rfl⟩ := hb.form
          have hne2 : ((V.length : Int) == (s.size : Int)) = false := by simp; omega
          have hd : Hid (decide (V.length = s.size) = false) := decide_eq_false (by omega)
          have hq2 : V.length < s.size := by omega
          clear hI hq
          cases x with
          | false =>
            rcases (show s[k].toNat < 48 ∨ 58 ≤ s[k].toNat by omega) with h5 | h5
            all_goals
              clear h1 h4
              go_wp2
              try rw [Exit.noGoto_ret]
              go_ret2
              exact ⟨_, by rw [hd.out]; rfl, hb⟩
          | true =>
            rcases (show s[k].toNat < 48 ∨ (58 ≤ s[k].toNat ∧ s[k].toNat < 97) ∨ 103 ≤ s[k].toNat by simp at h4; omega) with h5 | ⟨h5, h6⟩ | h5
            all_goals
              clear h1 h4
              go_wp2
              try rw [Exit.noGoto_ret]
              go_ret2
              exact ⟨_, by rw [hd.out]; rfl, hb⟩
    · have hq : V.length = s.size := by omega
      rw [List.take_of_length_le (by omega)] at hb
      obtain ⟨a, cap, rfl⟩ := hb.form
      have hne2 : ((V.length : Int) == (s.size : Int)) = true := by simp; omega
      have hd : Hid (decide (V.length = s.size) = true) := decide_eq_true hq
      clear hq ho1 ho2 hob hne
      go_wp2
      try rw [Exit.noGoto_ret]
      go_ret2
      exact ⟨_, by rw [hd.out]; rfl, hb⟩

end Go.Proofs.Ytnaaebbinmpjeaa
