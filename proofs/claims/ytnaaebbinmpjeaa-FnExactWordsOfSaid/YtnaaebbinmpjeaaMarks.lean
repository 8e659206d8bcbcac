/- The marks by which a law tells whose memory a list of texts is: what laws.markText, eqStringS, markStringS and heldStringS hand back. -/
import Derived.Test.YtnaaebbinmpjeaaDecimal
import Derived.Test.YtnaaebbinmpjeaaKitS
import Derived.Deep.QuietTactic
import Derived.BigQuiet
import Derived.Deep.RegionHeld3
namespace Go.Proofs.Ytnaaebbinmpjeaa
open Go.RowKit

/-- The k-th mark. -/
def mark (k : Nat) : ByteArray := ⟨(109 :: digs k).toArray⟩

set_option maxRecDepth 100000 in
set_option maxHeartbeats 1000000 in
theorem markText_any (k : Nat) (w : World) (h1 : 1 ≤ k) (h2 : k ≤ 4611686018427387904) :
    Calls Try.prog 26 #[.int .i64 (k : Int)] w fun e w' => e = .returned (.string (mark k)) ∧ Below w.heap.size w w' := by
  have hdl := digs_len_half k k (Nat.le_refl _)
  go_enter Try.func26, Try.ntmps26
  go_wp2
  go_loopw [0, 3] (fun nv sv wr => ∃ (m : Nat) (acc : List UInt8), m ≤ k ∧ nv = .int .i64 (m : Int) ∧ sv = .string ⟨acc.toArray⟩ ∧ digs m ++ acc = digs k ∧ Below w.heap.size w wr) (fun nv _ _ => (intOf nv).toNat)
  case atStart => exact ⟨k, [], Nat.le_refl _, rfl, rfl, by simp, Below.refl _ _⟩
  case round =>
    obtain ⟨m, acc, hm, rfl, rfl, he0, hbel⟩ := hrel
    have he : Hid (digs m ++ acc = digs k) := he0
    have hal : acc.length ≤ (digs k).length := by have h1 := congrArg List.length he0; simp at h1; omega
    clear he0
    by_cases hm0 : m = 0
    · subst hm0
      have hsp := string_push 109 acc (by omega)
      go_wp2
      go_ret
      refine ⟨?_, hbel⟩
      have := he.out
      rw [digs_zero, List.nil_append] at this
      rw [mark, ← this]
      rfl
    · have hm1 : (0 : Int) < (m : Int) := by omega
      obtain ⟨b, hb0⟩ : ∃ b : UInt8, figD (m % 10) = b := ⟨_, rfl⟩
      have hbn : (b.toNat : Int) = 48 + (m : Int) % 10 := by rw [← hb0, figD_toNat (by omega)]; omega
      have hb1 : Hid (b = figD (m % 10)) := hb0.symm
      have hcv := one_string wr (48 + (m : Int) % 10) b hbn.symm
      have hsp := string_push b acc (by omega)
      clear hb0 hbn
      go_wp2
      go_roundw
      case rel => exact ⟨m / 10, b :: acc, by omega, by go_num, rfl, by rw [hb1.out]; exact digs_push he.out hm0, hbel.alloc hbel.size _⟩
      case measure => simp [intOf]; omega

theorem Strs.ways {w : World} {v : Value} {l : List ByteArray} (h : Strs w v l) : (l = [] ∧ ∃ (a : Option Addr) (cap : Nat), v = .slice a 0 cap) ∨
    (l ≠ [] ∧ ∃ g cap : Nat, v = .slice (some ⟨g, 0, none⟩) l.length cap ∧ l.length ≤ cap ∧ g < w.heap.size ∧ ∀ j b, l[j]? = some b → w.cell? ⟨g, j, none⟩ = some (.string b)) := by
  by_cases hl : l = []
  · subst hl
    rcases h with h | ⟨g, cap, hv, _⟩
    · exact .inl h
    · exact .inl ⟨rfl, _, _, hv⟩
  · rcases h with ⟨h, _⟩ | h
    · exact absurd h hl
    · exact .inr ⟨hl, h⟩

set_option maxRecDepth 100000 in
set_option maxHeartbeats 1000000 in
theorem eqStringS_same (l : List ByteArray) (va vb : Value) (w : World) (ha : Strs w va l) (hb : Strs w vb l) (hl : l.length ≤ 1099511627776) :
    Calls Try.prog 11 #[va, vb] w fun e w' => e = .returned (.bool true) ∧ Below w.heap.size w w' := by
  rcases ha.ways with ⟨rfl, a, c, rfl⟩ | ⟨hne, ga, ca, rfl, hca, hga, hcla⟩
  · rcases hb.ways with ⟨_, b, d, rfl⟩ | ⟨hne, _⟩
    · clear ha hb
      go_enter Try.func11, Try.ntmps11
      go_wp2
      go_loop [5] (fun iv => iv = .int .i64 0) (fun _ => 0)
      case atStart => rfl
      case round =>
        obtain rfl := hrel
        go_wp2
        go_ret
        exact ⟨rfl, Below.refl _ _⟩
    · exact absurd rfl hne
  · rcases hb.ways with ⟨e, _⟩ | ⟨_, gb, cb, rfl, hcb, hgb, hclb⟩
    · exact absurd e hne
    · clear ha hb
      have HA : Hid (∀ j b, l[j]? = some b → w.cell? ⟨ga, j, none⟩ = some (.string b)) := hcla
      have HB : Hid (∀ j b, l[j]? = some b → w.cell? ⟨gb, j, none⟩ = some (.string b)) := hclb
      clear hcla hclb
      go_enter Try.func11, Try.ntmps11
      go_wp2
      go_loopw [5] (fun iv wr => ∃ i : Nat, i ≤ l.length ∧ iv = .int .i64 (i : Int) ∧ Below w.heap.size w wr) (fun iv _ => l.length - (intOf iv).toNat)
      case atStart => exact ⟨0, by omega, rfl, Below.refl _ _⟩
      case round =>
        obtain ⟨i, hi, rfl, hbel⟩ := hrel
        by_cases hlt : i < l.length
        · have hg : l[i]? = some l[i] := List.getElem?_eq_getElem hlt
          have h1 := (hbel.cell (p := ⟨ga, i, none⟩) hga).trans (HA.out i _ hg)
          have h2 := (hbel.cell (p := ⟨gb, i, none⟩) hgb).trans (HB.out i _ hg)
          generalize l[i] = t at *
          have hi0 : (0 : Int) ≤ (i : Int) := by omega
          have hi1 : (i : Int) < (l.length : Int) := by omega
          clear hg
          go_wp2
          go_quiet (fail)
          go_wp2
          go_roundw
          case rel => exact ⟨i + 1, by omega, by go_num, below_drewN hbel _⟩
          case measure => simp [intOf]; omega
        · go_wp2
          go_ret
          exact ⟨rfl, hbel⟩

end Go.Proofs.Ytnaaebbinmpjeaa
