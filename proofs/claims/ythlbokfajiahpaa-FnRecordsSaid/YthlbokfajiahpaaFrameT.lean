/- Frames: what FrameText and FrameSize hand back, of the model and of the program. -/
import Derived.Test.YthlbokfajiahpaaFrame
namespace Go.Proofs.Ythlbokfajiahpaa
open Go.RowKit

theorem raw_eq (f : Fr) : f.raw = vtB f.gen.toNat ++ vtB f.seq.toNat ++ (vtB f.body.size ++ f.body) := rfl
theorem raw_eq' (f : Fr) : f.raw = vtB f.gen.toNat ++ vtB f.seq.toNat ++ vtB f.body.size ++ f.body := by rw [raw_eq, ByteArray.append_assoc, ByteArray.append_assoc, ByteArray.append_assoc]
theorem seT_raw {f : Fr} (h : f.ok) : seT f.raw = .tuple #[.string f.tx, .bool true] := by
  rw [seT_yes (by have := Fr.raw_size h; omega)]; rfl
theorem varT_num {n : Int} (h : Fr.numOk n) : varT n = .tuple #[.string (vtB n.toNat), .bool true] := by unfold Fr.numOk at h; rw [varT_yes (by omega)]; rfl
theorem shT_body {s : ByteArray} (h : s.size ≤ 180) : shT s = .tuple #[.string (vtB s.size ++ s), .bool true] := by rw [shT_yes (by omega)]; rfl
theorem vtB_le {n : Nat} (h : n ≤ 1000000000) : (vtB n).size ≤ 5 := by rw [vtB_size]; exact vt_five h


theorem l01VarI_any (n : Int) (w : World) (h0 : 0 ≤ n) (hn : n ≤ 1000000000) :
    Calls Try.prog 88 #[.int .i64 n] w fun e w' => e = .returned (.string (vtB n.toNat)) ∧ Below w.heap.size w w' := by
  have := l01Var_any n.toNat w (by omega)
  rw [Int.toNat_of_nonneg h0] at this
  exact this


/-- What FrameSize hands back. -/
def fsz (f : Fr) : Nat := if f.ok then f.tx.size else 0
theorem fsz_form (f : Fr) : ∃ (t : ByteArray) (b : Bool), ftT f = .tuple #[.string t, .bool b] ∧ t.size = fsz f ∧ t.size ≤ 196 := by
  unfold fsz
  by_cases h : f.ok
  · exact ⟨f.tx, true, ftT_yes h, by rw [if_pos h], Fr.tx_le h⟩
  · exact ⟨⟨#[]⟩, false, ftT_no h, by rw [if_neg h]; rfl, by decide⟩



end Go.Proofs.Ythlbokfajiahpaa
