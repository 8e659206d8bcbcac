/- The helpers of the exact laws over lists of writes: two alike are alike; each is marked, and the marks are held. -/
import Derived.Test.YtmlhpjkijpbinaqMarksS
import Derived.Test.YtmlhpjkijpbinaqEncs
import Derived.Test.YtmlhpjkijpbinaqPuts
import Derived.Lib.Hide
namespace Go.Proofs.Ytmlhpjkijpbinaq
open Go.RowKit

theorem eqWrite_same (n : Int) (s : ByteArray) (w : World) :
    Calls Try.prog 28 #[.agg #[.int .i64 n, .string s], .agg #[.int .i64 n, .string s]] w fun e w' => e = .returned (.bool true) ∧ Below w.heap.size w w' := by
  go_enter Try.func28, Try.ntmps28
  go_wp2
  go_ret
  exact ⟨rfl, ((Below.refl _ _).alloc (Nat.le_refl _) _).alloc (by simp) _⟩

/-- The two cells of a write. -/
theorem wr_cells {E : Enc Wr} (hf : E.f = wrE.f) (hz : E.sz = 2) {w w' : World} {g off : Nat} {l : List Wr} (hc : ∀ j x, l[j]? = some x → ∀ k u, (E.f x)[k]? = some u → w.cell? ⟨g, off + j * E.sz + k, none⟩ = some u)
    (hg : g < w.heap.size) (hb : Below w.heap.size w w') (i : Nat) (x : Wr) (hi : l[i]? = some x) :
    w'.cell? ⟨g, off + i * 2, none⟩ = some (.int .i64 x.at_) ∧ w'.cell? ⟨g, off + i * 2 + 1, none⟩ = some (.string x.text) := by
  have h0 := hc i x hi 0 (.int .i64 x.at_) (by rw [hf]; rfl)
  have h1 := hc i x hi 1 (.string x.text) (by rw [hf]; rfl)
  rw [hz] at h0 h1
  exact ⟨(hb.cell (p := ⟨g, off + i * 2, none⟩) hg).trans h0, (hb.cell (p := ⟨g, off + i * 2 + 1, none⟩) hg).trans h1⟩

set_option maxRecDepth 100000 in
set_option maxHeartbeats 1000000 in
theorem eqWriteS_same (l : List Wr) (va vb : Value) (w : World) (ha : Rows' wrE w va l) (hb : Rows' wrE w vb l) (hl : l.length ≤ 1099511627776) :
    Calls Try.prog 21 #[va, vb] w fun e w' => e = .returned (.bool true) ∧ Below w.heap.size w w' := by
  rcases ha.ways with ⟨rfl, a, c, rfl⟩ | ⟨hne, ga, oa, ca, rfl, hca, hga, hcla⟩
  · rcases hb.ways with ⟨_, b, d, rfl⟩ | ⟨hne, _⟩
    · clear ha hb
      go_enter Try.func21, Try.ntmps21
      go_wp2
      go_loop [5] (fun iv => iv = .int .i64 0) (fun _ => 0)
      case atStart => rfl
      case round =>
        obtain rfl := hrel
        go_wp2
        go_ret
        exact ⟨rfl, Below.refl _ _⟩
    · exact absurd rfl hne
  · rcases hb.ways with ⟨e, _⟩ | ⟨_, gb, ob, cb, rfl, hcb, hgb, hclb⟩
    · exact absurd e hne
    · clear ha hb
      have HA := Lib.hid hcla
      have HB := Lib.hid hclb
      clear hcla hclb
      go_enter Try.func21, Try.ntmps21
      go_wp2
      go_loopw [5] (fun iv wr => ∃ i : Nat, i ≤ l.length ∧ iv = .int .i64 (i : Int) ∧ Below w.heap.size w wr) (fun iv _ => l.length - (intOf iv).toNat)
      case atStart => exact ⟨0, by omega, rfl, Below.refl _ _⟩
      case round =>
        obtain ⟨i, hi, rfl, hbel⟩ := hrel
        by_cases hlt : i < l.length
        · have hg : l[i]? = some l[i] := List.getElem?_eq_getElem hlt
          obtain ⟨a0, a1⟩ := wr_cells rfl rfl HA.out hga hbel i _ hg
          obtain ⟨b0, b1⟩ := wr_cells rfl rfl HB.out hgb hbel i _ hg
          generalize l[i] = t at *
          obtain ⟨n, s⟩ := t
          simp only at a0 a1 b0 b1
          have hi0 : (0 : Int) ≤ (i : Int) := by omega
          have hi1 : (i : Int) < (l.length : Int) := by omega
          have HS : Hid (∀ w', Below wr.drew.heap.size wr.drew w' → w'.cell? ⟨ga, oa + i * 2, none⟩ = some (.int .i64 n) ∧ w'.cell? ⟨ga, oa + i * 2 + 1, none⟩ = some (.string s) ∧ w'.cell? ⟨gb, ob + i * 2, none⟩ = some (.int .i64 n) ∧ w'.cell? ⟨gb, ob + i * 2 + 1, none⟩ = some (.string s)) := by
            intro w' hw
            have hw2 : Below w.heap.size w w' := hbel.drew.trans (hw.mono hbel.size)
            obtain ⟨a0, a1⟩ := wr_cells rfl rfl HA.out hga hw2 i _ hg
            obtain ⟨b0, b1⟩ := wr_cells rfl rfl HB.out hgb hw2 i _ hg
            exact ⟨a0, a1, b0, b1⟩
          clear hg
          go_wp2
          go_region_held3 (fun w' => w'.cell? ⟨ga, oa + i * 2, none⟩ = some (.int .i64 n) ∧ w'.cell? ⟨ga, oa + i * 2 + 1, none⟩ = some (.string s) ∧ w'.cell? ⟨gb, ob + i * 2, none⟩ = some (.int .i64 n) ∧ w'.cell? ⟨gb, ob + i * 2 + 1, none⟩ = some (.string s))
            (first | go_keep | exact HS.out _ hb1)
            (first | (go_at_call 28; refine (eqWrite_same _ _ _).mono ?_; rintro e w1 ⟨rfl, hb1⟩))
          all_goals
            go_wp2
            go_roundw
            case rel => exact ⟨i + 1, by omega, by go_num, hbel.drew.trans (hb1.mono hbel.size)⟩
            case measure => simp [intOf]; omega
        · go_wp2
          go_ret
          exact ⟨rfl, hbel⟩

/-- The marks of a list of writes. -/
def markW (k : Nat) (j : Nat) : Wr := ⟨((k + 2 * j : Nat) : Int), mark (k + 2 * j + 1)⟩
def marksW (k n : Nat) : List Wr := (List.range n).map (markW k)
theorem marksW_length (k n : Nat) : (marksW k n).length = n := by simp [marksW]
theorem marksW_at {k n i : Nat} (h : i < n) : (marksW k n)[i]? = some (markW k i) := by simp [marksW, h]

/-! Lists of texts as rows. -/

theorem strE_row (l : List ByteArray) : strE.row l = strV l := by
  induction l with
  | nil => rfl
  | cons x l ih =>
    have : strE.row (x :: l) = .string x :: strE.row l := rfl
    rw [this, ih]; rfl

theorem RBuf.toS {B : Nat} {w0 w : World} {v : Value} {l : List ByteArray} (h : RBuf strE B w0 w v l) : SBuf B w0 w v l :=
  ⟨by have := h.own; rw [strE_row] at this; exact this, h.bel, h.le⟩
theorem SBuf.toR {B : Nat} {w0 w : World} {v : Value} {l : List ByteArray} (h : SBuf B w0 w v l) : RBuf strE B w0 w v l :=
  ⟨by rw [strE_row]; exact h.own, h.bel, h.le⟩

end Go.Proofs.Ytmlhpjkijpbinaq
