/- What the program's FlushDisk hands back. -/
import Derived.Test.YtegjkcooebmkoapLanded
namespace Go.Proofs.Ytegjkcooebmkoap
open Go.RowKit

theorem overS_whole (s : Sec) {t : ByteArray} (h : t.size = 32) : (overS s t 32).str = t := by
  have hl : t.data.toList.length = 32 := by rw [Array.length_toList]; exact h
  have e : (overS s t 32).1 = t.data.toList := by
    unfold overS splice
    simp only [Nat.min_self]
    rw [List.take_of_length_le (l := t.data.toList) (by omega), hl]
    simp [List.drop_of_length_le, s.2]
  show (⟨(overS s t 32).1.toArray⟩ : ByteArray) = t
  rw [e]

theorem secOf_str {t : ByteArray} (h : t.size = 32) : (secOf t).str = t := secL_of h

theorem map_secOf {l : List ByteArray} (h : ∀ s ∈ l, s.size = 32) : (l.map secOf).map Sec.str = l := by
  rw [List.map_map]
  conv => rhs; rw [← List.map_id l]
  exact List.map_congr_left fun s hs => secOf_str (h s hs)

theorem landI_flush {d : Dk} (hok : d.ok) (i : Nat) (hi : i ≤ d.cache.length) : (landI (d.sec.map secOf) d.cache 32 i).map Sec.str = flush d.sec (d.cache.take i) := by
  induction i with
  | zero =>
    show (d.sec.map secOf).map Sec.str = d.sec
    exact map_secOf hok.2.2.2.1
  | succ i ih =>
    have hlt : i < d.cache.length := by omega
    obtain ⟨h1, h2, h3⟩ := hok.2.2.2.2 _ (List.getElem_mem hlt)
    rw [landI_succ hlt, flush_take hlt, ← ih (by omega)]
    have hk : d.cache[i].at_.toNat < (landI (d.sec.map secOf) d.cache 32 i).length := by rw [landI_length, List.length_map]; omega
    rw [putS_at hk, List.map_set]
    congr 1
    rw [ite_self]
    exact overS_whole _ h3

theorem landD_flush (d : Dk) : landD d d.cache 32 = flD d := by
  unfold landD flD
  by_cases h : d.ok
  · rw [if_pos h, if_pos h, landI_flush h _ (Nat.le_refl _), List.take_length]
  · rw [if_neg h, if_neg h]

theorem flD_small {d : Dk} (h : d.small) (hc : d.count ≤ 4000000) : (flD d).small ∧ (flD d).count ≤ 4000010 := by
  unfold flD
  unfold Dk.count at hc
  split
  · refine ⟨⟨?_, by show (0 : Nat) ≤ _; omega⟩, ?_⟩
    · show (flush d.sec d.cache).length ≤ _; rw [flush_length]; exact h.1
    · show (flush d.sec d.cache).length + 2 * 0 ≤ _; rw [flush_length]; omega
  · exact ⟨h, by unfold Dk.count; omega⟩


end Go.Proofs.Ytegjkcooebmkoap
