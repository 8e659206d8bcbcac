/- A frame that comes in as an argument, and the helpers of the exact laws on frames. -/
import Derived.Test.YthlbokfajiahpabFrOk
import Derived.Test.YthlbokfajiahpabBox
import Derived.Lib.SmallJoins
import Derived.ProofKit
namespace Go.Proofs.Ythlbokfajiahpab
open Go.RowKit Go.ChangeShapes Go.WideShapes Go.ChangeAt Go.Deep Go.Joins

/-- A frame that came in: its body is a text. -/
def FIn (v : Value) (f : Fr) : Prop := v = f.v ∧ f.body.size ≤ 9223372036854775807

section
variable {H : Type} {enc : TypeId × Value → H} {W : World}

set_option maxRecDepth 100000 in
theorem open_Frame {b0 : Nat} {r : Reach} {v : Value} {d : DataW H} {p : List MemPlace} (hv : Value.okWide Try.prog W r b0 46 v) (h : DataW.Trod enc Try.prog W 0 (fun _ => true) true 46 v d p) : ∃ D : Fr, FIn v D := by
  obtain ⟨v0, v1, v2, y0, y1, y2, n, rfl, _, _, h0, h1, h2⟩ := open_agg3 Try.underlying46 (by kernel_rfl) (by kernel_rfl) hv h
  obtain ⟨s, hs, _, hsz⟩ := DataW.trod_string Try.underlying9 h2
  obtain ⟨k0, hk0, _, _⟩ := DataW.trod_int Try.underlying3 h0
  obtain ⟨k1, hk1, _, _⟩ := DataW.trod_int Try.underlying3 h1
  simp at hs hk0 hk1
  have hml : maxLen ≤ 9223372036854775807 := by decide
  exact ⟨⟨k0, k1, s⟩, by rw [hs, hk0, hk1]; rfl, Nat.le_trans hsz hml⟩
end

set_option maxRecDepth 100000 in
theorem szFrame_any (f : Fr) (left : Int) (w : World) (hs : f.body.size ≤ 9223372036854775807) (h0 : 0 ≤ left) (h1 : left ≤ 1099511627776) :
    Calls Try.prog 21 #[f.v, .int .i64 left] w fun e w' => (∃ r : Int, e = .returned (.int .i64 r) ∧ (r < 0 ∨ (f.body.size : Int) ≤ left) ∧ -1 ≤ r) ∧ Below w.heap.size w w' := by
  have b0 : Below w.heap.size w (w.alloc (.cells #[.int .i64 f.gen, .int .i64 f.seq, .string f.body] 46)) := (Below.refl _ _).alloc (Nat.le_refl _) _
  unfold Fr.v
  by_cases h : (f.body.size : Int) ≤ left
  · go_enter Try.func21, Try.ntmps21
    go_wp2
    go_ret
    exact ⟨⟨left - f.body.size, rfl, .inr h, by omega⟩, b0⟩
  · go_enter Try.func21, Try.ntmps21
    go_wp2
    go_ret
    exact ⟨⟨-1, rfl, .inl (by omega), by omega⟩, b0⟩

set_option maxRecDepth 100000 in
theorem toFrame_any (f : Fr) (w : World) : Calls Try.prog 23 #[f.v] w fun e w' => e = .returned f.v ∧ Below w.heap.size w w' := by
  unfold Fr.v
  go_enter Try.func23, Try.ntmps23
  go_wp2
  refine bodyPost_ret (v := .agg #[.int .i64 f.gen, .int .i64 f.seq, .string f.body]) (by simp [results, Try.results23, go_sem]) rfl ?_
  exact ⟨rfl, (((Below.refl _ _).alloc (Nat.le_refl _) _).alloc (by simp) _).alloc (by simp; omega) _⟩

set_option maxRecDepth 100000 in
theorem eqFrame_same (f : Fr) (w : World) : Calls Try.prog 20 #[f.v, f.v] w fun e w' => e = .returned (.bool true) ∧ Below w.heap.size w w' := by
  unfold Fr.v
  go_enter Try.func20, Try.ntmps20
  go_wp2
  go_ret
  exact ⟨rfl, ((Below.refl _ _).alloc (Nat.le_refl _) _).alloc (by simp) _⟩

end Go.Proofs.Ythlbokfajiahpab
