/- The handle of the type error, out of what the row lays. -/
import Derived.Test.YtmahicpheimnjaaDoorErrAs
import Derived.Test.YtmahicpheimnjaaDoorRows
import Derived.LaidLaws
import Derived.LaidHandle
namespace Go.Proofs.YtmahicpheimnjaaDoor
open Go.RowKit

theorem err_et : Tryd.prog.globalNamed "errors.errorType" = some 0 := by kernel_rfl
theorem err_rt : (Tryd.prog.cutTypes.find? (·.1 == "internal/reflectlite.rtype")).map (·.2) = some 93 := by kernel_rfl
theorem err_oneRow : ((List.range 137).filter fun t => Tryd.prog.rowNamed t [101, 114, 114, 111, 114]) = [42] := by kernel_rfl
theorem err_size : Tryd.prog.types.size = 137 := by kernel_rfl

/-- From the handles that are met to the variable's one cell. -/
theorem errTab_of_handles {W : World} {l : List (String × DataW Unit)} (hm : ("errors.errorType", (.iface "internal/reflectlite.rtype" (.agg [.ptr (.lit (.string [101, 114, 114, 111, 114]))]) : DataW Unit)) ∈ l) (h : handlesMet Tryd.prog l W) : ErrTab W := by
  obtain ⟨name, u, ty, e1, e2, e3, e4, e5⟩ := h _ (by first | exact hm | exact List.mem_filter.2 ⟨hm, by kernel_rfl⟩)
  have en : name = [101, 114, 114, 111, 114] := (Option.some.inj e1).symm
  subst en
  obtain rfl := Option.some.inj (err_rt.symm.trans e2)
  have hm : ty ∈ (List.range 137).filter fun t => Tryd.prog.rowNamed t [101, 114, 114, 111, 114] := List.mem_filter.2 ⟨List.mem_range.2 (by rw [← err_size]; exact e3), e4⟩
  rw [err_oneRow] at hm
  obtain rfl := List.mem_singleton.1 hm
  have hh : typeHandle Tryd.prog 42 = .pointer (some ⟨2, 42, none⟩) := by kernel_rfl
  rw [hh] at e5
  unfold ErrTab
  simpa using World.var?_cell err_et e5 0

end Go.Proofs.YtmahicpheimnjaaDoor
