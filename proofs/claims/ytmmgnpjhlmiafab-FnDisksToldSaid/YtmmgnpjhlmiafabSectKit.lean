/- What the drawn laws on disks share: a code that is too long, two drawn places, and where a sector lies. -/
import Derived.Test.YtmmgnpjhlmiafabDrawPlaces
import Derived.Test.YtmmgnpjhlmiafabDisk
namespace Go.Proofs.Ytmmgnpjhlmiafab
open Go.RowKit

theorem big_any (a : Option Addr) (len cap : Nat) (w : World) :
    Calls Try.prog 4 #[.slice a len cap] w fun e w' => e = .returned (.bool (decide ((1048576 : Int) < (len : Int)))) ∧ w = w' := by
  go_enter Try.func4, Try.ntmps4
  go_wp2
  go_ret
  exact ⟨rfl, rfl⟩

/-- The places that are drawn, as two numbers. -/
theorem places2 {w w' : World} {l : List Int} {v : Value} (hl : l.length = 12) (hlz : ∀ z ∈ l, 0 ≤ z ∧ z < 10000) (hib : IBuf w.heap.size w w' v l) :
    ∃ (gp cp : Nat) (z0 z1 : Nat), v = .slice (some ⟨gp, 0, none⟩) 12 cp ∧ 12 ≤ cp ∧ gp < w'.heap.size ∧ w'.cell? ⟨gp, 0, none⟩ = some (.int .i64 (z0 : Int)) ∧ w'.cell? ⟨gp, 1, none⟩ = some (.int .i64 (z1 : Int)) := by
  rcases hib.ints with ⟨h, _⟩ | ⟨g, cp, hv, hcp, hg, hcl⟩
  · rw [h] at hl; cases hl
  · have e0 := List.getElem?_eq_getElem (show 0 < l.length by omega)
    have e1 := List.getElem?_eq_getElem (show 1 < l.length by omega)
    have k0 := hlz _ (List.mem_of_getElem? e0)
    have k1 := hlz _ (List.mem_of_getElem? e1)
    rw [hl] at hv hcp
    refine ⟨g, cp, l[0].toNat, l[1].toNat, hv, hcp, hg, ?_, ?_⟩
    · rw [Int.toNat_of_nonneg k0.1]; exact hcl 0 _ e0
    · rw [Int.toNat_of_nonneg k1.1]; exact hcl 1 _ e1

/-- Where a sector of a disk lies. -/
theorem DOwn.secAt {B T : Nat} {w : World} {s1 s2 : Option Addr} {c1 c2 n1 n2 : Nat} {d : Dk} (h : DOwn B T w (.agg #[.slice s1 n1 c1, .slice s2 n2 c2]) d) {k : Nat} (hk : k < d.sec.length) : ∃ g : Nat, s1 = some ⟨g, 0, none⟩ ∧ n1 = d.sec.length ∧ ∀ X, Below w.heap.size w X → X.cell? ⟨g, k, none⟩ = some (.string d.sec[k]) := by
  obtain ⟨va, vb, hv, h1, h2, h3⟩ := h
  simp only [Value.agg.injEq, Array.mk.injEq, List.cons.injEq, and_true] at hv
  obtain ⟨rfl, rfl⟩ := hv
  rcases h1.1.own.2 with ⟨e, h0⟩ | ⟨g, cap, cur, e, _⟩
  · have : d.sec.length = 0 := h0
    omega
  · simp only [Value.slice.injEq] at e
    obtain ⟨rfl, rfl, rfl⟩ := e
    refine ⟨g, rfl, rfl, fun X hX => ?_⟩
    have h4 := (h1.1.later hX).cell rfl k _ (List.getElem?_eq_getElem hk) 0 _ rfl
    rw [show strE.sz = 1 from rfl, Nat.mul_one, Nat.add_zero] at h4
    exact h4

end Go.Proofs.Ytmmgnpjhlmiafab
