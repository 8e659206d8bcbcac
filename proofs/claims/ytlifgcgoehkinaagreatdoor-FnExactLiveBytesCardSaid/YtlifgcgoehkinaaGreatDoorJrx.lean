/- Texts of our own, joined. -/
import Derived.Test.YtlifgcgoehkinaaGreatDoorJm
import Derived.ProofKit
import Derived.LaidMore
/- The table of sixteen words, where the row lays it. -/
namespace Go.Proofs.YtlifgcgoehkinaaGreatDoor
open Go.ChangeShapes Go.WideShapes Go.ChangeAt Go.RowKit
open Go.ChangeMaps (open_string shut_string)
set_option linter.unusedVariables false

theorem sumTabData : (Rows.laid_loop_example_g00287_impl_sumTable : DataW Unit) = Lib.tabData .u32 sumTabI := by rfl

theorem sumTab_of_laid {W : World} (h : laidMetH Tryz.prog [("loop.example/g00287/impl.sumTable", Rows.laid_loop_example_g00287_impl_sumTable)] W) : SumTab W := by
  rw [MakeChecks.laidMetH_plain _ _ _ (by kernel_rfl)] at h
  obtain ⟨ps, ⟨g0, t0, cs0, f0, p0, q0, hg0, ht0, hv0, hd0, _, _⟩, _⟩ := h
  have hg : Tryz.prog.globalNamed "loop.example/g00287/impl.sumTable" = some 0 := by kernel_rfl
  have ht : (Tryz.prog.globals[0]?).map (·.type) = some 172 := by kernel_rfl
  obtain rfl := Option.some.inj (hg.symm.trans hg0)
  obtain rfl := Option.some.inj (ht.symm.trans ht0)
  unfold SumTab Lib.TabIs
  rw [sumTabData] at hd0
  rw [hv0, ← Lib.cells_of_tab (P := Tryz.prog) Tryz.underlying172 Tryz.underlying134 (by kernel_rfl) (by kernel_rfl) hd0]

end Go.Proofs.YtlifgcgoehkinaaGreatDoor
