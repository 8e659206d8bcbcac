/- Texts of our own, joined. -/
import Derived.Test.YtieenkloiicnkaaGreatDoorJb
import Derived.Test.YtieenkloiicnkaaGreatDoorJo
import Derived.Deep.Slices
import Derived.Deep.SlicePairs
import Derived.Lib.SmallJoins
import Derived.ProofKit
import Derived.Test.YtieenkloiicnkaaGreatDoorJf
import Derived.Test.YtieenkloiicnkaaGreatDoorJr
import Derived.LaidMore
import Derived.Test.YtieenkloiicnkaaGreatDoorJmx
import Derived.Test.YtieenkloiicnkaaGreatDoorRows
import Derived.LaidLaws
import Derived.LaidHandle
/- What a disk is that comes in as an argument: its rows can be read. -/
namespace Go.Proofs.YtieenkloiicnkaaGreatDoor
open Go.RowKit Go.ChangeShapes Go.WideShapes Go.ChangeAt Go.Deep Go.Joins

section
variable {H : Type} {enc : TypeId × Value → H} {W : World}

instance : Inhabited Wr := ⟨⟨0, ⟨#[]⟩⟩⟩

end

end Go.Proofs.YtieenkloiicnkaaGreatDoor

/- What the exact laws on disks carry from call to call: a disk of its own that stands in a box. -/
namespace Go.Proofs.YtieenkloiicnkaaGreatDoor
open Go.RowKit

def DB (x : World) (b B T : Nat) (s1 s2 : Value) (d : Dk) : Prop := Box x b #[s1, s2] 33 ∧ DOwn B T x (.agg #[s1, s2]) d

theorem DB.new {x : World} {B T : Nat} {s1 s2 : Value} {d : Dk} (h : DOwn B T x (.agg #[s1, s2]) d) : DB (x.alloc (.cells #[s1, s2] 33)) x.heap.size B T s1 s2 d :=
  ⟨Box.new x _ _, h.later ((Below.refl _ _).alloc (Nat.le_refl _) _)⟩
theorem DB.later {x y : World} {b B T : Nat} {s1 s2 : Value} {d : Dk} (h : DB x b B T s1 s2 d) (hb : Below x.heap.size x y) : DB y b B T s1 s2 d := ⟨h.1.later hb, h.2.later hb⟩
theorem DB.kept {x y : World} {b B T B' T' : Nat} {s1 s2 : Value} {d : Dk} (h : DB x b B T s1 s2 d) (hk : Kept B' T' x y) (hd : T ≤ B' ∨ T' ≤ B) (hb : b < B' ∨ T' ≤ b) : DB y b B T s1 s2 d := ⟨h.1.kept hk hb, h.2.kept hk hd⟩
theorem DB.marked {x y : World} {b B T : Nat} {s1 s2 : Value} {d d' : Dk} (h : DB x b B T s1 s2 d) (hk : Kept B T x y) (ho : DOwn B T y (.agg #[s1, s2]) d') (hb : b < B ∨ T ≤ b) : DB y b B T s1 s2 d' := ⟨h.1.kept hk hb, ho⟩
theorem DB.c0 {x : World} {b B T : Nat} {s1 s2 : Value} {d : Dk} (h : DB x b B T s1 s2 d) : x.cell? ⟨b, 0, none⟩ = some s1 := h.1.cell 0 s1 rfl
theorem DB.c1 {x : World} {b B T : Nat} {s1 s2 : Value} {d : Dk} (h : DB x b B T s1 s2 d) : x.cell? ⟨b, 1, none⟩ = some s2 := h.1.cell 1 s2 rfl

end Go.Proofs.YtieenkloiicnkaaGreatDoor

/- The table of sixteen words, where the row lays it. -/
namespace Go.Proofs.YtieenkloiicnkaaGreatDoor
open Go.ChangeShapes Go.WideShapes Go.ChangeAt Go.RowKit
open Go.ChangeMaps (open_string shut_string)
set_option linter.unusedVariables false

theorem sumTabData : (Rows.laid_loop_example_g00287_impl_sumTable : DataW Unit) = Lib.tabData .u32 sumTabI := by rfl

theorem sumTab_of_laid {W : World} (h : laidMetH Tryz.prog [("loop.example/g00287/impl.sumTable", Rows.laid_loop_example_g00287_impl_sumTable)] W) : SumTab W := by
  rw [MakeChecks.laidMetH_plain _ _ _ (by kernel_rfl)] at h
  obtain ⟨ps, ⟨g0, t0, cs0, f0, p0, q0, hg0, ht0, hv0, hd0, _, _⟩, _⟩ := h
  have hg : Tryz.prog.globalNamed "loop.example/g00287/impl.sumTable" = some 1 := by kernel_rfl
  have ht : (Tryz.prog.globals[1]?).map (·.type) = some 254 := by kernel_rfl
  obtain rfl := Option.some.inj (hg.symm.trans hg0)
  obtain rfl := Option.some.inj (ht.symm.trans ht0)
  unfold SumTab Lib.TabIs
  rw [sumTabData] at hd0
  rw [hv0, ← Lib.cells_of_tab (P := Tryz.prog) Tryz.underlying254 Tryz.underlying159 (by kernel_rfl) (by kernel_rfl) hd0]

end Go.Proofs.YtieenkloiicnkaaGreatDoor

/- The handle of the type error, out of what the row lays. -/
namespace Go.Proofs.YtieenkloiicnkaaGreatDoor
open Go.RowKit

theorem err_et : Tryz.prog.globalNamed "errors.errorType" = some 0 := by kernel_rfl
theorem err_rt : (Tryz.prog.cutTypes.find? (·.1 == "internal/reflectlite.rtype")).map (·.2) = some 214 := by kernel_rfl
theorem err_oneRow : ((List.range 282).filter fun t => Tryz.prog.rowNamed t [101, 114, 114, 111, 114]) = [89] := by kernel_rfl
theorem err_size : Tryz.prog.types.size = 282 := by kernel_rfl

theorem errTab_of_handles {W : World} {l : List (String × DataW Unit)} (hm : ("errors.errorType", (.iface "internal/reflectlite.rtype" (.agg [.ptr (.lit (.string [101, 114, 114, 111, 114]))]) : DataW Unit)) ∈ l) (h : handlesMet Tryz.prog l W) : ErrTab W := by
  obtain ⟨name, u, ty, e1, e2, e3, e4, e5⟩ := h _ (by first | exact hm | exact List.mem_filter.2 ⟨hm, by kernel_rfl⟩)
  have en : name = [101, 114, 114, 111, 114] := (Option.some.inj e1).symm
  subst en
  obtain rfl := Option.some.inj (err_rt.symm.trans e2)
  have hm : ty ∈ (List.range 282).filter fun t => Tryz.prog.rowNamed t [101, 114, 114, 111, 114] := List.mem_filter.2 ⟨List.mem_range.2 (by rw [← err_size]; exact e3), e4⟩
  rw [err_oneRow] at hm
  obtain rfl := List.mem_singleton.1 hm
  have hh : typeHandle Tryz.prog 89 = .pointer (some ⟨2, 89, none⟩) := by kernel_rfl
  rw [hh] at e5
  unfold ErrTab
  simpa using World.var?_cell err_et e5 0

end Go.Proofs.YtieenkloiicnkaaGreatDoor
