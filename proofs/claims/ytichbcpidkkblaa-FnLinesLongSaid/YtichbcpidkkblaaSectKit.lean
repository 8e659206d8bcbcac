/- What the drawn laws on disks share: a code that is too long, two drawn places, and where a sector lies. -/
import Derived.Test.YtichbcpidkkblaaDrawPlaces
import Derived.Test.YtichbcpidkkblaaDisk
namespace Go.Proofs.Ytichbcpidkkblaa
open Go.RowKit

theorem big_any (a : Option Addr) (len cap : Nat) (w : World) :
    Calls Try.prog 6 #[.slice a len cap] w fun e w' => e = .returned (.bool (decide ((1048576 : Int) < (len : Int)))) ∧ w = w' := by
  go_enter Try.func6, Try.ntmps6
  go_wp2
  go_ret
  exact ⟨rfl, rfl⟩

/-- The places that are drawn, as two numbers. -/
theorem places2 {w w' : World} {l : List Int} {v : Value} (hl : l.length = 12) (hlz : ∀ z ∈ l, 0 ≤ z ∧ z < 10000) (hib : IBuf w.heap.size w w' v l) :
    ∃ (gp cp : Nat) (z0 z1 : Nat), v = .slice (some ⟨gp, 0, none⟩) 12 cp ∧ 12 ≤ cp ∧ gp < w'.heap.size ∧ w'.cell? ⟨gp, 0, none⟩ = some (.int .i64 (z0 : Int)) ∧ w'.cell? ⟨gp, 1, none⟩ = some (.int .i64 (z1 : Int)) := by
  rcases hib.ints with ⟨h, _⟩ | ⟨g, cp, hv, hcp, hg, hcl⟩
  · rw [h] at hl; cases hl
  · have e0 := List.getElem?_eq_getElem (show 0 < l.length by omega)
    have e1 := List.getElem?_eq_getElem (show 1 < l.length by omega)
    have k0 := hlz _ (List.mem_of_getElem? e0)
    have k1 := hlz _ (List.mem_of_getElem? e1)
    rw [hl] at hv hcp
    refine ⟨g, cp, l[0].toNat, l[1].toNat, hv, hcp, hg, ?_, ?_⟩
    · rw [Int.toNat_of_nonneg k0.1]; exact hcl 0 _ e0
    · rw [Int.toNat_of_nonneg k1.1]; exact hcl 1 _ e1

end Go.Proofs.Ytichbcpidkkblaa
