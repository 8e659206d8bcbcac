/- Disks compared: laws.sameTexts and laws.sameDisk of what is alike. -/
import Derived.Test.YtmmgnpjhlmiafabDisk
import Derived.Laws.StructEq
namespace Go.Proofs.Ytmmgnpjhlmiafab
open Go.RowKit

theorem write_fields : Try.prog.underlying 49 = some (.struct (Try.prog.fieldsOf 49)) := by kernel_rfl

theorem run_write_equal (n : Int) (s : ByteArray) (w : World) : (Op.equalIn 10000 49 (.agg #[.int .i64 n, .string s]) (.agg #[.int .i64 n, .string s])).run Try.prog w = .ok true w := by
  rw [run_equalIn_agg _ 9999 _ _ _ write_fields (by kernel_rfl)]
  simp [go_sem, Op.eqFields, Try.underlying49, Program.fieldsOf]
theorem run_write_neq (n : Int) (s : ByteArray) (w : World) : (binOp .neq 49 (.agg #[.int .i64 n, .string s]) (.agg #[.int .i64 n, .string s])).run Try.prog w = .ok (.bool false) w := by
  rw [run_neq_struct, run_write_equal]; rfl

set_option maxRecDepth 100000 in
set_option maxHeartbeats 1000000 in
theorem sameTexts_same (l : List ByteArray) (va vb : Value) (w : World) (ha : Strs w va l) (hb : Strs w vb l) (hl : l.length ≤ 1099511627776) :
    Calls Try.prog 30 #[va, vb] w fun e w' => e = .returned (.bool true) ∧ Below w.heap.size w w' := by
  rcases ha.ways with ⟨rfl, a, c, rfl⟩ | ⟨hne, ga, ca, rfl, hca, hga, hcla⟩
  · rcases hb.ways with ⟨_, b, d, rfl⟩ | ⟨hne, _⟩
    · clear ha hb
      go_enter Try.func30, Try.ntmps30
      go_wp2
      go_loop [5] (fun iv => iv = .int .i64 0) (fun _ => 0)
      case atStart => rfl
      case round =>
        obtain rfl := hrel
        go_wp2
        go_ret
        exact ⟨rfl, Below.refl _ _⟩
    · exact absurd rfl hne
  · rcases hb.ways with ⟨e, _⟩ | ⟨_, gb, cb, rfl, hcb, hgb, hclb⟩
    · exact absurd e hne
    · clear ha hb
      have HA : Hid (∀ j b, l[j]? = some b → w.cell? ⟨ga, j, none⟩ = some (.string b)) := hcla
      have HB : Hid (∀ j b, l[j]? = some b → w.cell? ⟨gb, j, none⟩ = some (.string b)) := hclb
      clear hcla hclb
      go_enter Try.func30, Try.ntmps30
      go_wp2
      go_loopw [5] (fun iv wr => ∃ i : Nat, i ≤ l.length ∧ iv = .int .i64 (i : Int) ∧ Below w.heap.size w wr) (fun iv _ => l.length - (intOf iv).toNat)
      case atStart => exact ⟨0, by omega, rfl, Below.refl _ _⟩
      case round =>
        obtain ⟨i, hi, rfl, hbel⟩ := hrel
        by_cases hlt : i < l.length
        · have hg : l[i]? = some l[i] := List.getElem?_eq_getElem hlt
          have h1 := (hbel.cell (p := ⟨ga, i, none⟩) hga).trans (HA.out i _ hg)
          have h2 := (hbel.cell (p := ⟨gb, i, none⟩) hgb).trans (HB.out i _ hg)
          generalize l[i] = t at *
          have hi0 : (0 : Int) ≤ (i : Int) := by omega
          have hi1 : (i : Int) < (l.length : Int) := by omega
          clear hg
          go_wp2
          go_quiet (fail)
          go_wp2
          go_roundw
          case rel => exact ⟨i + 1, by omega, by go_num, below_drewN hbel _⟩
          case measure => simp [intOf]; omega
        · go_wp2
          go_ret
          exact ⟨rfl, hbel⟩

set_option maxRecDepth 100000 in
set_option maxHeartbeats 1000000 in
theorem sameDisk_same (d : Dk) (v1 v2 : Value) (w : World) (h1 : DRd w v1 d) (h2 : DRd w v2 d) (hs : d.small) :
    Calls Try.prog 15 #[v1, v2] w fun e w' => e = .returned (.bool true) ∧ Below w.heap.size w w' := by
  obtain ⟨va, vb, rfl, ha, hb⟩ := h1
  obtain ⟨vc, vd, rfl, hc, hd⟩ := h2
  obtain ⟨s1, s2⟩ := hs
  have b0 : Below w.heap.size w ((w.alloc (.cells #[va, vb] 27)).alloc (.cells #[vc, vd] 27)) := ((Below.refl _ _).alloc (Nat.le_refl _) _).alloc (by simp) _
  have ha' := ha.later b0
  have hc' := hc.later b0
  have HB : Hid (∀ w', Below ((w.alloc (.cells #[va, vb] 27)).alloc (.cells #[vc, vd] 27)).heap.size ((w.alloc (.cells #[va, vb] 27)).alloc (.cells #[vc, vd] 27)) w' →
      Below w.heap.size w w' ∧ Rows' wrE w' vb d.cache ∧ Rows' wrE w' vd d.cache ∧ w'.cell? ⟨w.heap.size, 1, none⟩ = some vb ∧ w'.cell? ⟨w.heap.size + 1, 1, none⟩ = some vd) := by
    intro w' h
    have h' : Below w.heap.size w w' := b0.trans (h.mono b0.size)
    refine ⟨h', hb.later h', hd.later h', ?_, ?_⟩
    · exact box_cells w #[va, vb] 27 (((Below.refl _ _).alloc (Nat.le_refl _) _).trans (h.mono (by simp))) 1 vb rfl
    · have := box_cells (w.alloc (.cells #[va, vb] 27)) #[vc, vd] 27 h 1 vd rfl
      simpa using this
  clear hb hd ha hc
  go_enter Try.func15, Try.ntmps15
  go_wp2_with fail
  refine (sameTexts_same d.sec va vc _ ha' hc' (by omega)).mono ?_
  rintro e w1 ⟨rfl, hb1⟩
  obtain ⟨hb1', r1, r2, c1, c2⟩ := HB.out w1 hb1
  obtain ⟨ea, ec, rfl⟩ : ∃ (a : Option Addr) (c : Nat), vb = .slice a d.cache.length c := by
    rcases r1.ways with ⟨e, a, c, rfl⟩ | ⟨_, g, o, c, rfl, _⟩
    · exact ⟨a, c, by rw [e]; rfl⟩
    · exact ⟨_, _, rfl⟩
  obtain ⟨fa, fc, rfl⟩ : ∃ (a : Option Addr) (c : Nat), vd = .slice a d.cache.length c := by
    rcases r2.ways with ⟨e, a, c, rfl⟩ | ⟨_, g, o, c, rfl, _⟩
    · exact ⟨a, c, by rw [e]; rfl⟩
    · exact ⟨_, _, rfl⟩
  have HW : Hid (∀ Y, Below w1.heap.size w1 Y → Below w.heap.size w Y ∧ Rows' wrE Y (.slice ea d.cache.length ec) d.cache ∧ Rows' wrE Y (.slice fa d.cache.length fc) d.cache ∧ Y.cell? ⟨w.heap.size, 1, none⟩ = some (.slice ea d.cache.length ec) ∧ Y.cell? ⟨w.heap.size + 1, 1, none⟩ = some (.slice fa d.cache.length fc)) := fun Y hY => HB.out Y (hb1.trans (hY.mono hb1.size))
  clear r1 r2 ha' hc'
  go_wp2
  go_loopw [5] (fun iv wr => ∃ i : Nat, i ≤ d.cache.length ∧ iv = .int .i64 (i : Int) ∧ Below w1.heap.size w1 wr) (fun iv _ => d.cache.length - (intOf iv).toNat)
  case atStart => exact ⟨0, by omega, rfl, Below.refl _ _⟩
  case round =>
    obtain ⟨i, hi, rfl, hbel⟩ := hrel
    clear c1 c2
    obtain ⟨hbY, r1, r2, c1, c2⟩ := HW.out _ hbel
    by_cases hlt : i < d.cache.length
    · obtain ⟨ga, oa, rfl, hA⟩ := r1.at i hlt
      obtain ⟨gb, ob, rfl, hB⟩ := r2.at i hlt
      have a0 : wr.cell? ⟨ga, oa + i * 2, none⟩ = some (.int .i64 d.cache[i].at_) := hA wr (Below.refl _ _) 0 _ rfl
      have a1 : wr.cell? ⟨ga, oa + i * 2 + 1, none⟩ = some (.string d.cache[i].text) := hA wr (Below.refl _ _) 1 _ rfl
      have b0 : wr.cell? ⟨gb, ob + i * 2, none⟩ = some (.int .i64 d.cache[i].at_) := hB wr (Below.refl _ _) 0 _ rfl
      have b1 : wr.cell? ⟨gb, ob + i * 2 + 1, none⟩ = some (.string d.cache[i].text) := hB wr (Below.refl _ _) 1 _ rfl
      have hi0 : (0 : Int) ≤ (i : Int) := by omega
      have hi1 : (i : Int) < (d.cache.length : Int) := by omega
      clear hA hB r1 r2
      generalize d.cache[i].at_ = n at *
      generalize d.cache[i].text = s at *
      have hneq := run_write_neq n s
      go_wp2
      go_quiet (fail)
      go_wp2
      go_roundw
      case rel => exact ⟨i + 1, by omega, by go_num, hbel.trans ⟨rfl, rfl, rfl, Nat.le_refl _, fun _ _ => rfl⟩⟩
      case measure => simp [intOf]; omega
    · clear r1 r2
      go_wp2
      go_ret
      exact ⟨rfl, hbY⟩

end Go.Proofs.Ytmmgnpjhlmiafab
