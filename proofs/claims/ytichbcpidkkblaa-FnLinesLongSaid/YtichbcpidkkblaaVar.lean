/- The bytes of a number: what spec.l01Var, spec.VarText and impl.VarText hand back. -/
import Derived.Test.YtichbcpidkkblaaPlain
import Derived.Test.YtichbcpidkkblaaKit
import Derived.Laws.Bits128
namespace Go.Proofs.Ytichbcpidkkblaa
open Go.RowKit



/-- What VarText hands back, of every number. -/
def varT (n : Int) : Value := if 0 ≤ n ∧ n ≤ 1000000000 then .tuple #[.string ⟨(vt n.toNat).toArray⟩, .bool true] else .tuple #[.string ⟨#[]⟩, .bool false]

theorem varT_yes {n : Int} (h : 0 ≤ n ∧ n ≤ 1000000000) : varT n = .tuple #[.string ⟨(vt n.toNat).toArray⟩, .bool true] := by rw [varT, if_pos h]
theorem varT_no {n : Int} (h : ¬ (0 ≤ n ∧ n ≤ 1000000000)) : varT n = .tuple #[.string ⟨#[]⟩, .bool false] := by rw [varT, if_neg h]



end Go.Proofs.Ytichbcpidkkblaa
