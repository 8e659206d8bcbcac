/- The text whose figures a text is: what impl.Unhex hands back. -/
import Derived.Test.YtpknmloeaiieaaaDoorUnhex
import Derived.Test.YtpknmloeaiieaaaDoorFigures
import Derived.Deep.RegionHeld3
namespace Go.Proofs.YtpknmloeaiieaaaDoor
open Go.RowKit

set_option maxRecDepth 100000 in
set_option maxHeartbeats 2000000 in
theorem implUnhex_any (s : ByteArray) (w : World) (hs : s.size ≤ 1099511627776) :
    Calls Tryd.prog 15 #[.string s] w fun e w' => e = .returned (uhT s) ∧ Below w.heap.size w w' := by
  by_cases h : s.size ≤ 40000
  · by_cases h2 : s.size % 2 = 0
    · have hlen : s.data.toList.length = s.size := by simp
      have hm : (((s.size : Int) % 2) != 0) = false := by simp; omega
      obtain ⟨V, hV0⟩ : ∃ V, valsOf true s.data.toList = V := ⟨_, rfl⟩
      have hV : Hid (valsOf true s.data.toList = V) := hV0
      have hVle : V.length ≤ s.size := by rw [← hV0]; simpa using valsOf_le true s.data.toList
      have hV16 : Hid (∀ c ∈ V, c.toNat < 16) := by rw [← hV0]; exact fun c hc => valsOf_lt16 hc
      clear hV0
      by_cases h3 : V.length = s.size
      · have hz : Hid (uhT s = _) := uhT_yes ⟨by omega, by omega, by rw [hV.out]; omega⟩
        have hd : decide (V.length = s.size) = true := decide_eq_true h3
        have h4 : V.length % 2 = 0 := by omega
        have h5 : V.length ≤ 40000 := by omega
        clear h3
        go_enter Tryd.func15, Tryd.ntmps15
        go_wp2_with (first | (go_at_call 25; refine (figuresOf_any true 16 s _ rfl hs).mono ?_; rintro e w1 ⟨v, rfl, hb1⟩; rw [hV.out, hd]; rw [hV.out] at hb1; obtain ⟨ao, cp, rfl⟩ := hb1.form) | (at_make; refine wpList_make_bytes rfl _ _ rfl .i64 .i64 _ (V.length / 2) rfl rfl (by omega) (by omega) ?_; intro w2 gg hb2 hg2))
        go_loopw [6, 7] (fun v iv wr => ∃ j t : Nat, t = 2 * j ∧ t ≤ V.length ∧ iv = .int .i64 (t : Int) ∧ Buf w1.heap.size w1 wr v (pairsOf (V.take t))) (fun _ iv _ => V.length - (intOf iv).toNat)
        case atStart => exact ⟨0, 0, rfl, by omega, rfl, hb2⟩
        case round =>
          obtain ⟨j, t, ht0, hj, rfl, hb⟩ := hrel
          have ht : Hid (t = 2 * j) := ht0
          by_cases hlt : t < V.length
          · have hlt2 : t + 1 < V.length := by omega
            obtain ⟨g, cap, he, hcap, _, hg1, hcl⟩ := hb1.at (by intro e; rw [e] at hlt; simp at hlt)
            simp only [Value.slice.injEq] at he
            obtain ⟨rfl, _, rfl⟩ := he
            have hq1 : V[t]? = some V[t] := List.getElem?_eq_getElem hlt
            have hq2 : V[t + 1]? = some V[t + 1] := List.getElem?_eq_getElem hlt2
            have hc1 := hcl _ _ hq1
            have hc2 := hcl _ _ hq2
            have hp0 : pairsOf (V.take (t + 2)) = pairsOf (V.take t) ++ [UInt8.ofNat (16 * V[t].toNat + V[t + 1].toNat)] := by
              have hq1' := hq1; have hq2' := hq2
              have := pairs_next (l := V) (j := j) (a := V[t]) (b := V[t + 1]) (by rw [← ht0]; exact hq1) (by rw [← ht0]; exact hq2)
              rw [show 2 * (j + 1) = t + 2 by omega, ← ht0] at this
              exact this
            have ha16 := hV16.out _ (List.getElem_mem hlt)
            have hb16 := hV16.out _ (List.getElem_mem hlt2)
            have hL : (pairsOf (V.take t)).length ≤ 40000 := by rw [pairsOf_length j _ (by simp; omega)]; omega
            generalize V[t].toNat = a at *
            generalize V[t + 1].toNat = b at *
            obtain ⟨c, hc0⟩ : ∃ c : UInt8, UInt8.ofNat (16 * a + b) = c := ⟨_, rfl⟩
            have hcn : Hid (c.toNat = 16 * a + b) := by rw [← hc0]; exact pair_toNat ha16 hb16
            have hp : Hid (pairsOf (V.take (t + 2)) = pairsOf (V.take t) ++ [c]) := by rw [← hc0]; exact hp0
            have hcr1 := (hb.bel.cell (p := ⟨g, t, none⟩) hg1).trans hc1
            have hcr2 := (hb.bel.cell (p := ⟨g, t + 1, none⟩) hg1).trans hc2
            have HC1 : Hid (w1.cell? ⟨g, t, none⟩ = some (.int .u8 (a : Int))) := hc1
            have HC2 : Hid (w1.cell? ⟨g, t + 1, none⟩ = some (.int .u8 (b : Int))) := hc2
            have hsh : IntKind.u8.wrap ((a : Int) * 16) = (a : Int) * 16 := IntWalk.u8_in _ ⟨by omega, by omega⟩
            have hor := shl_or a b ha16 hb16
            have hi0 : (0 : Int) ≤ (t : Int) := by omega
            have hi1 : (t : Int) < (V.length : Int) := by omega
            have hi2 : (0 : Int) ≤ (t : Int) + 1 := by omega
            have hi3 : (t : Int) + 1 < (V.length : Int) := by omega
            have hw3 : IntKind.i64.wrap ((t : Int) + 1) = (t : Int) + 1 := IntWalk.i64_in _ ⟨by omega, by omega⟩
            have hw4 : ((t : Int) + 1).toNat = t + 1 := by omega
            clear hq1 hq2 hc1 hc2 hp0 hc0 hcl ht0
            go_wp2
            go_region_held3 (fun w' => w'.cell? ⟨g, t, none⟩ = some (.int .u8 (a : Int)) ∧ w'.cell? ⟨g, t + 1, none⟩ = some (.int .u8 (b : Int)))
              (first | go_keep | exact ⟨(hb'.bel.cell hg1).trans HC1.out, (hb'.bel.cell hg1).trans HC2.out⟩)
              (first
              | (refine step_append_bytes (by rfl) _ _ (by rfl) _ _ _ (by rfl) ((hb.alloc _).drew) ⟨wr.heap.size, 0, none⟩ [c] 1 (by rfl) (one_new _ _ _ (by rw [hcn.out]; omega)) (by simp; omega) ?_; intro v' w3 hb' hk'))
            go_wp2
            go_roundw
            case rel => exact ⟨j + 1, t + 2, by have := ht.out; omega, by omega, by go_num, by rw [hp.out]; exact hb'⟩
            case measure => simp [intOf]; omega
          · have hcv := hb.toString
            go_wp2
            go_ret2
            refine ⟨?_, hb1.bel.trans (hb.bel.mono hb1.bel.size)⟩
            rw [hz.out, hV.out, List.take_of_length_le (by omega)]
            rfl
      · have hz : Hid (uhT s = _) := uhT_no (fun hh => h3 (by have := hh.2.2; rw [hV.out] at this; omega))
        have hd : decide (V.length = s.size) = false := decide_eq_false h3
        go_enter Tryd.func15, Tryd.ntmps15
        go_wp2_with (go_at_call 25; refine (figuresOf_any true 16 s _ rfl hs).mono ?_; rintro e w1 ⟨v, rfl, hb1⟩; rw [hV.out, hd])
        go_ret2
        exact ⟨by rw [hz.out]; rfl, hb1.bel⟩
    · have hz : Hid (uhT s = _) := uhT_no (fun hh => h2 (by have := hh.2.1; simpa using this))
      have hm : (((s.size : Int) % 2) != 0) = true := by simp; omega
      go_enter Tryd.func15, Tryd.ntmps15
      go_wp2
      go_ret2
      exact ⟨by rw [hz.out]; rfl, Below.refl _ _⟩
  · have hz : Hid (uhT s = _) := uhT_no (fun hh => h (by have := hh.1; simpa using this))
    go_enter Tryd.func15, Tryd.ntmps15
    go_wp2
    go_ret2
    exact ⟨by rw [hz.out]; rfl, Below.refl _ _⟩

theorem uhT_form (s : ByteArray) : ∃ (t : ByteArray) (f : Bool), uhT s = .tuple #[.string t, .bool f] := by
  unfold uhT
  split
  · exact ⟨_, _, rfl⟩
  · exact ⟨_, _, rfl⟩

end Go.Proofs.YtpknmloeaiieaaaDoor
