/- Frames compared: alike is alike; and laws.sameFrames. -/
import Derived.Test.YtmmgnpjhlmiafabDoorDrawFr3
import Derived.Laws.StructEq
namespace Go.Proofs.YtmmgnpjhlmiafabDoor
open Go.RowKit

theorem frame_fields : Tryd.prog.underlying 30 = some (.struct (Tryd.prog.fieldsOf 30)) := by kernel_rfl

theorem run_frame_equal (f : Fr) (w : World) : (Op.equalIn 10000 30 (.agg #[.int .i64 f.gen, .int .i64 f.seq, .string f.body]) (.agg #[.int .i64 f.gen, .int .i64 f.seq, .string f.body])).run Tryd.prog w = .ok true w := by
  rw [run_equalIn_agg _ 9999 _ _ _ frame_fields (by kernel_rfl)]
  simp [go_sem, Op.eqFields, Tryd.underlying30, Program.fieldsOf]

theorem run_frame_eql (f : Fr) (w : World) : (binOp .eql 30 (.agg #[.int .i64 f.gen, .int .i64 f.seq, .string f.body]) (.agg #[.int .i64 f.gen, .int .i64 f.seq, .string f.body])).run Tryd.prog w = .ok (.bool true) w := by
  rw [run_eql_struct, run_frame_equal]; rfl
theorem run_frame_neq (f : Fr) (w : World) : (binOp .neq 30 (.agg #[.int .i64 f.gen, .int .i64 f.seq, .string f.body]) (.agg #[.int .i64 f.gen, .int .i64 f.seq, .string f.body])).run Tryd.prog w = .ok (.bool false) w := by
  rw [run_neq_struct, run_frame_equal]; rfl

theorem fr_cells' {w w' : World} {g off : Nat} {l : List Fr} (hc : ∀ j x, l[j]? = some x → ∀ k u, (frE.f x)[k]? = some u → w.cell? ⟨g, off + j * frE.sz + k, none⟩ = some u)
    (hg : g < w.heap.size) (hb : Below w.heap.size w w') (i : Nat) (x : Fr) (hi : l[i]? = some x) :
    w'.cell? ⟨g, off + i * 3, none⟩ = some (.int .i64 x.gen) ∧ w'.cell? ⟨g, off + i * 3 + 1, none⟩ = some (.int .i64 x.seq) ∧ w'.cell? ⟨g, off + i * 3 + 2, none⟩ = some (.string x.body) := by
  have h0 := hc i x hi 0 (.int .i64 x.gen) rfl
  have h1 := hc i x hi 1 (.int .i64 x.seq) rfl
  have h2 := hc i x hi 2 (.string x.body) rfl
  exact ⟨(hb.cell (p := ⟨g, off + i * 3, none⟩) hg).trans h0, (hb.cell (p := ⟨g, off + i * 3 + 1, none⟩) hg).trans h1, (hb.cell (p := ⟨g, off + i * 3 + 2, none⟩) hg).trans h2⟩

set_option maxRecDepth 100000 in
set_option maxHeartbeats 1000000 in
theorem sameFrames_same (l : List Fr) (va vb : Value) (w : World) (ha : Rows' frE w va l) (hb : Rows' frE w vb l) (hl : l.length ≤ 1099511627776) :
    Calls Tryd.prog 10 #[va, vb] w fun e w' => e = .returned (.bool true) ∧ Below w.heap.size w w' := by
  rcases ha.ways with ⟨rfl, a, c, rfl⟩ | ⟨hne, ga, oa, ca, rfl, hca, hga, hcla⟩
  · rcases hb.ways with ⟨_, b, d, rfl⟩ | ⟨hne, _⟩
    · clear ha hb
      go_enter Tryd.func10, Tryd.ntmps10
      go_wp2
      go_loop [5] (fun iv => iv = .int .i64 0) (fun _ => 0)
      case atStart => rfl
      case round =>
        obtain rfl := hrel
        go_wp2
        go_ret
        exact ⟨rfl, Below.refl _ _⟩
    · exact absurd rfl hne
  · rcases hb.ways with ⟨e, _⟩ | ⟨_, gb, ob, cb, rfl, hcb, hgb, hclb⟩
    · exact absurd e hne
    · clear ha hb
      have HA := Lib.hid hcla
      have HB := Lib.hid hclb
      clear hcla hclb
      go_enter Tryd.func10, Tryd.ntmps10
      go_wp2
      go_loopw [5] (fun iv wr => ∃ i : Nat, i ≤ l.length ∧ iv = .int .i64 (i : Int) ∧ Below w.heap.size w wr) (fun iv _ => l.length - (intOf iv).toNat)
      case atStart => exact ⟨0, by omega, rfl, Below.refl _ _⟩
      case round =>
        obtain ⟨i, hi, rfl, hbel⟩ := hrel
        by_cases hlt : i < l.length
        · have hg : l[i]? = some l[i] := List.getElem?_eq_getElem hlt
          obtain ⟨a0, a1, a2⟩ := fr_cells' HA.out hga hbel i _ hg
          obtain ⟨b0, b1, b2⟩ := fr_cells' HB.out hgb hbel i _ hg
          generalize l[i] = f at *
          have hi0 : (0 : Int) ≤ (i : Int) := by omega
          have hi1 : (i : Int) < (l.length : Int) := by omega
          have hneq := run_frame_neq f
          clear hg
          go_wp2
          go_quiet (fail)
          go_wp2
          go_roundw
          case rel => exact ⟨i + 1, by omega, by go_num, hbel.trans ⟨rfl, rfl, rfl, Nat.le_refl _, fun _ _ => rfl⟩⟩
          case measure => simp [intOf]; omega
        · go_wp2
          go_ret
          exact ⟨rfl, hbel⟩

end Go.Proofs.YtmmgnpjhlmiafabDoor
