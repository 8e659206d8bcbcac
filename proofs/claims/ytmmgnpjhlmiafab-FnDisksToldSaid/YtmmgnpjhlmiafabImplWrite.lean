/- Disks: what the program's WriteSector hands back. -/
import Derived.Test.YtmmgnpjhlmiafabCopyDisk
import Derived.Deep.RegionLaw
namespace Go.Proofs.Ytmmgnpjhlmiafab
open Go.RowKit

theorem wrOk_iff (d : Dk) (a : Int) (t : ByteArray) : (⟨d.sec, d.cache ++ [⟨a, t⟩]⟩ : Dk).ok ↔ wrOk d a t := by
  constructor
  · rintro ⟨h1, h2, h3, h4, h5⟩
    have hl : (d.cache ++ [(⟨a, t⟩ : Wr)]).length = d.cache.length + 1 := by simp
    simp only [hl] at h3
    obtain ⟨x1, x2, x3⟩ := h5 ⟨a, t⟩ (by simp)
    exact ⟨⟨h1, h2, by omega, h4, fun x hx => h5 x (by simp [hx])⟩, ⟨x1, x2⟩, x3, by omega⟩
  · rintro ⟨⟨h1, h2, _, h4, h5⟩, ⟨x1, x2⟩, x3, h3⟩
    refine ⟨h1, h2, ?_, h4, fun x hx => ?_⟩
    · show (d.cache ++ [(⟨a, t⟩ : Wr)]).length ≤ 60
      simp; omega
    · rcases List.mem_append.1 hx with h | h
      · exact h5 x h
      · simp at h; subst h; exact ⟨x1, x2, x3⟩

theorem wrD_small {d : Dk} {a : Int} {t : ByteArray} (h : d.small) (hc : d.count ≤ 4000000) : (wrD d a t).small ∧ (wrD d a t).count ≤ 4000010 := by
  unfold wrD
  split
  · unfold Dk.count at hc
    refine ⟨⟨h.1, ?_⟩, ?_⟩
    · show (d.cache ++ [(⟨a, t⟩ : Wr)]).length ≤ _
      simp; omega
    · show d.sec.length + 2 * (d.cache ++ [(⟨a, t⟩ : Wr)]).length ≤ _
      simp; omega
  · exact ⟨h, by omega⟩


end Go.Proofs.Ytmmgnpjhlmiafab
