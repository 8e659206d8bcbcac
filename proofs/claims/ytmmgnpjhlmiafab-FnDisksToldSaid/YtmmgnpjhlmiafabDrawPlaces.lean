/- The drawn places: twelve numbers, each in 0 .. 9999, in a list of the call's own. -/
import Derived.Test.YtmmgnpjhlmiafabDraw2
import Derived.Test.YtmmgnpjhlmiafabKitI
namespace Go.Proofs.Ytmmgnpjhlmiafab
open Go.RowKit

theorem IBuf.cursor {B : Nat} {w w' : World} {v : Value} {l : List Int} {pc : Nat} (h : IBuf B w w v l) (hg : w.grownBy w' (some pc)) (hp : pc < B) : IBuf B w' w' v l := by
  refine ⟨h.own.kept hg ?_, Below.refl _ _, Nat.le_trans h.le hg.size⟩
  cases hv : v.ownBlock with
  | none => exact .inl rfl
  | some k => exact .inr (by intro e; have := (h.own.lt k hv).1; have := Option.some.inj e; omega)

theorem IBuf.here {B : Nat} {w0 w : World} {v : Value} {l : List Int} (h : IBuf B w0 w v l) : IBuf B w w v l := ⟨h.own, Below.refl _ _, h.le⟩

theorem IBuf.down {B0 B : Nat} {w0 w1 w : World} {v : Value} {l : List Int} (h : IBuf B w1 w v l) (hb : Below B0 w0 w) (hB : B0 ≤ B) : IBuf B0 w0 w v l := by
  refine ⟨⟨h.own.1, ?_⟩, hb, Nat.le_trans hB h.le⟩
  rcases h.own.2 with h1 | ⟨g, cap, cur, h1, h2, h3⟩
  · exact .inl h1
  · exact .inr ⟨g, cap, cur, h1, Nat.le_trans hB h2, h3⟩

theorem one_int (w : World) (x : Int) : ∀ j u, [Value.int .i64 x][j]? = some u → (w.alloc (.cells #[.int .i64 x] 3)).cell? ((⟨w.heap.size, 0, none⟩ : Addr).add j) = some u := by
  intro j u hj
  match j, hj with
  | 0, hj => simp at hj; subst hj; simp [Addr.add]
  | j + 1, hj => simp at hj

theorem below_of_new' {w w1 w2 : World} {pc : Nat} (hb : Below w.heap.size w w1) (hp : w.heap.size ≤ pc) (hg : w1.grownBy w2 (some pc)) : Below w.heap.size w w2 :=
  hb.grown hg hb.size (fun k hk => by have := Option.some.inj hk; omega)

/-- The drawn places. -/
def PlacesR (w : World) (e : Ending) (w' : World) : Prop :=
  ∃ (l : List Int) (v : Value), l.length = 12 ∧ (∀ z ∈ l, 0 ≤ z ∧ z < 10000) ∧ e = .returned v ∧ IBuf w.heap.size w w' v l

end Go.Proofs.Ytmmgnpjhlmiafab
