/- Texts of our own, joined. -/
import Derived.Test.YtlifgcgoehkinaaGreatDoorJw
import Derived.DeepKeys4
import Derived.WalkArith
/- Structs as keys of maps: two texts; three numbers. -/
namespace Go.Proofs.YtlifgcgoehkinaaGreatDoor
open Go.RowKit
open Go.Maps (Keyed)

def intL (v : Value) : Option (List Lit) := match v with | .int q n => if q = .i64 ∧ (Lit.int .i64 n).wf = true then some [.int .i64 n] else none | _ => none
theorem intL_inv {v : Value} {p : List Lit} (h : intL v = some p) : ∃ n, v = .int .i64 n ∧ (Lit.int .i64 n).wf = true := by
  unfold intL at h
  cases v <;> simp at h
  obtain ⟨⟨rfl, h2⟩, _⟩ := h
  exact ⟨_, rfl, h2⟩
theorem intL_mk {n : Int} (h : (Lit.int .i64 n).wf = true) : intL (.int .i64 n) = some [.int .i64 n] := if_pos ⟨rfl, h⟩

theorem lit_int (v : Value) (d : Nat) : Tryz.prog.keyLits (d + 1) 3 [v] = intL v := by
  unfold Program.keyLits
  rw [Tryz.underlying3]
  cases v <;> rfl
theorem many_types : ∃ d, Tryz.prog.types.size + 1 = d + 2 := ⟨Tryz.prog.types.size - 1, by have h : (0 : Nat) < Tryz.prog.types.size := of_decide_eq_true (by kernel_rfl); omega⟩


theorem sj_lits (x y z : Value) (d : Nat) : Tryz.prog.keyLits (d + 2) 118 [x, y, z] = (intL x).bind fun p => (intL y).bind fun q => (intL z).map fun r => p ++ (q ++ r) := by
  have hc : Tryz.prog.cellsOf 118 = 3 := by kernel_rfl
  have hs : Tryz.prog.cellsOf 3 = 1 := by kernel_rfl
  unfold Program.keyLits
  rw [Tryz.underlying118]
  simp only [List.length_cons, List.length_nil, hc]
  simp [hs, lit_int]
  cases intL x <;> cases intL y <;> cases intL z <;> simp
theorem sj_formed (x y z : Value) : (Value.agg #[x, y, z]).formed Tryz.prog 118 = true := by
  have hc : Tryz.prog.cellsOf 118 = 3 := by kernel_rfl
  simp [Value.formed, Tryz.underlying118, hc]
set_option maxRecDepth 100000 in
def sjK : KeyE Tryz.prog (Int × Int × Int) where
  ty := 118
  law := Keyed.of_law (deep_law_laid (show laidOutB Tryz.prog = true by kernel_rfl) (m := 2) (by omega) (of_decide_eq_true (by kernel_rfl)) (by kernel_rfl) (by rw [Tryz.underlying118]))
  val := fun x => .agg #[.int .i64 x.1, .int .i64 x.2.1, .int .i64 x.2.2]
  lit := fun x => .string (keyBytes [.int .i64 x.1, .int .i64 x.2.1, .int .i64 x.2.2])
  ok := fun x => (Lit.int .i64 x.1).wf = true ∧ (Lit.int .i64 x.2.1).wf = true ∧ (Lit.int .i64 x.2.2).wf = true
  key := fun x hx => by
    obtain ⟨d, hd⟩ := many_types
    unfold keyOf
    rw [Tryz.underlying118]
    have h1 : Tryz.prog.keyType 118 = true := by kernel_rfl
    simp only [h1, sj_formed, Bool.and_self, if_true, hd]
    show Option.map _ (Tryz.prog.keyLits (d + 2) _ [.int .i64 x.1, .int .i64 x.2.1, .int .i64 x.2.2]) = _
    rw [sj_lits, intL_mk hx.1, intL_mk hx.2.1, intL_mk hx.2.2]
    rfl
  inv := fun v l hv => by
    obtain ⟨d, hd⟩ := many_types
    have hc : Tryz.prog.cellsOf 118 = 3 := by kernel_rfl
    unfold keyOf at hv
    rw [Tryz.underlying118] at hv
    simp only [hd] at hv
    split at hv
    · rename_i hf
      have hf2 := (Bool.and_eq_true _ _ ▸ hf).2
      cases v with
      | agg cs =>
        simp [Value.formed, Tryz.underlying118, hc] at hf2
        obtain ⟨cl⟩ := cs
        have h2 : cl.length = 3 := hf2
        match cl, h2 with
        | [x, y, z], _ =>
          change Option.map _ (Tryz.prog.keyLits (d + 2) _ [x, y, z]) = _ at hv
          rw [sj_lits] at hv
          cases h3 : intL x with
          | none => rw [h3] at hv; cases hv
          | some p =>
            cases h4 : intL y with
            | none => rw [h3, h4] at hv; cases hv
            | some q =>
              cases h5 : intL z with
              | none => rw [h3, h4, h5] at hv; cases hv
              | some r =>
                obtain ⟨a, rfl, ha⟩ := intL_inv h3
                obtain ⟨b, rfl, hb⟩ := intL_inv h4
                obtain ⟨c, rfl, hc⟩ := intL_inv h5
                exact ⟨(a, b, c), ⟨ha, hb, hc⟩, rfl⟩
      | _ => simp [Value.formed, Tryz.underlying118] at hf2
    · cases hv
  inj := fun x y e => by
    obtain ⟨a, b, c⟩ := x
    obtain ⟨p, q, r⟩ := y
    simp at e
    obtain ⟨rfl, rfl, rfl⟩ := e
    rfl

end Go.Proofs.YtlifgcgoehkinaaGreatDoor
