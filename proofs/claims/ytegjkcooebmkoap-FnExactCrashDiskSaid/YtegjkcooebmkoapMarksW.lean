/- The helpers of the exact laws over lists of writes: two alike are alike; each is marked, and the marks are held. -/
import Derived.Test.YtegjkcooebmkoapMarksS
import Derived.Test.YtegjkcooebmkoapEncs
import Derived.Lib.Hide
namespace Go.Proofs.Ytegjkcooebmkoap
open Go.RowKit

theorem Rows'.ways {α : Type} {E : Enc α} {w : World} {v : Value} {l : List α} (h : Rows' E w v l) : (l = [] ∧ ∃ (a : Option Addr) (cap : Nat), v = .slice a 0 cap) ∨
    (l ≠ [] ∧ ∃ g off cap : Nat, v = .slice (some ⟨g, off, none⟩) l.length cap ∧ l.length ≤ cap ∧ g < w.heap.size ∧ ∀ j x, l[j]? = some x → ∀ k u, (E.f x)[k]? = some u → w.cell? ⟨g, off + j * E.sz + k, none⟩ = some u) := by
  by_cases hl : l = []
  · subst hl
    rcases h with h | ⟨g, off, cap, hv, _⟩
    · exact .inl h
    · exact .inl ⟨rfl, _, _, hv⟩
  · rcases h with ⟨h, _⟩ | h
    · exact absurd h hl
    · exact .inr ⟨hl, h⟩

theorem eqWrite_same (n : Int) (s : ByteArray) (w : World) :
    Calls Try.prog 49 #[.agg #[.int .i64 n, .string s], .agg #[.int .i64 n, .string s]] w fun e w' => e = .returned (.bool true) ∧ Below w.heap.size w w' := by
  go_enter Try.func49, Try.ntmps49
  go_wp2
  go_ret
  exact ⟨rfl, ((Below.refl _ _).alloc (Nat.le_refl _) _).alloc (by simp) _⟩

/-- The two cells of a write. -/
theorem wr_cells {E : Enc Wr} (hf : E.f = wrE.f) (hz : E.sz = 2) {w w' : World} {g off : Nat} {l : List Wr} (hc : ∀ j x, l[j]? = some x → ∀ k u, (E.f x)[k]? = some u → w.cell? ⟨g, off + j * E.sz + k, none⟩ = some u)
    (hg : g < w.heap.size) (hb : Below w.heap.size w w') (i : Nat) (x : Wr) (hi : l[i]? = some x) :
    w'.cell? ⟨g, off + i * 2, none⟩ = some (.int .i64 x.at_) ∧ w'.cell? ⟨g, off + i * 2 + 1, none⟩ = some (.string x.text) := by
  have h0 := hc i x hi 0 (.int .i64 x.at_) (by rw [hf]; rfl)
  have h1 := hc i x hi 1 (.string x.text) (by rw [hf]; rfl)
  rw [hz] at h0 h1
  exact ⟨(hb.cell (p := ⟨g, off + i * 2, none⟩) hg).trans h0, (hb.cell (p := ⟨g, off + i * 2 + 1, none⟩) hg).trans h1⟩

set_option maxRecDepth 100000 in
set_option maxHeartbeats 1000000 in
theorem eqWriteS_same (l : List Wr) (va vb : Value) (w : World) (ha : Rows' wrE w va l) (hb : Rows' wrE w vb l) (hl : l.length ≤ 1099511627776) :
    Calls Try.prog 30 #[va, vb] w fun e w' => e = .returned (.bool true) ∧ Below w.heap.size w w' := by
  rcases ha.ways with ⟨rfl, a, c, rfl⟩ | ⟨hne, ga, oa, ca, rfl, hca, hga, hcla⟩
  · rcases hb.ways with ⟨_, b, d, rfl⟩ | ⟨hne, _⟩
    · clear ha hb
      go_enter Try.func30, Try.ntmps30
      go_wp2
      go_loop [5] (fun iv => iv = .int .i64 0) (fun _ => 0)
      case atStart => rfl
      case round =>
        obtain rfl := hrel
        go_wp2
        go_ret
        exact ⟨rfl, Below.refl _ _⟩
    · exact absurd rfl hne
  · rcases hb.ways with ⟨e, _⟩ | ⟨_, gb, ob, cb, rfl, hcb, hgb, hclb⟩
    · exact absurd e hne
    · clear ha hb
      have HA := Lib.hid hcla
      have HB := Lib.hid hclb
      clear hcla hclb
      go_enter Try.func30, Try.ntmps30
      go_wp2
      go_loopw [5] (fun iv wr => ∃ i : Nat, i ≤ l.length ∧ iv = .int .i64 (i : Int) ∧ Below w.heap.size w wr) (fun iv _ => l.length - (intOf iv).toNat)
      case atStart => exact ⟨0, by omega, rfl, Below.refl _ _⟩
      case round =>
        obtain ⟨i, hi, rfl, hbel⟩ := hrel
        by_cases hlt : i < l.length
        · have hg : l[i]? = some l[i] := List.getElem?_eq_getElem hlt
          obtain ⟨a0, a1⟩ := wr_cells rfl rfl HA.out hga hbel i _ hg
          obtain ⟨b0, b1⟩ := wr_cells rfl rfl HB.out hgb hbel i _ hg
          generalize l[i] = t at *
          obtain ⟨n, s⟩ := t
          simp only at a0 a1 b0 b1
          have hi0 : (0 : Int) ≤ (i : Int) := by omega
          have hi1 : (i : Int) < (l.length : Int) := by omega
          have HS : Hid (∀ w', Below wr.drew.heap.size wr.drew w' → w'.cell? ⟨ga, oa + i * 2, none⟩ = some (.int .i64 n) ∧ w'.cell? ⟨ga, oa + i * 2 + 1, none⟩ = some (.string s) ∧ w'.cell? ⟨gb, ob + i * 2, none⟩ = some (.int .i64 n) ∧ w'.cell? ⟨gb, ob + i * 2 + 1, none⟩ = some (.string s)) := by
            intro w' hw
            have hw2 : Below w.heap.size w w' := hbel.drew.trans (hw.mono hbel.size)
            obtain ⟨a0, a1⟩ := wr_cells rfl rfl HA.out hga hw2 i _ hg
            obtain ⟨b0, b1⟩ := wr_cells rfl rfl HB.out hgb hw2 i _ hg
            exact ⟨a0, a1, b0, b1⟩
          clear hg
          go_wp2
          go_region_held3 (fun w' => w'.cell? ⟨ga, oa + i * 2, none⟩ = some (.int .i64 n) ∧ w'.cell? ⟨ga, oa + i * 2 + 1, none⟩ = some (.string s) ∧ w'.cell? ⟨gb, ob + i * 2, none⟩ = some (.int .i64 n) ∧ w'.cell? ⟨gb, ob + i * 2 + 1, none⟩ = some (.string s))
            (first | go_keep | exact HS.out _ hb1)
            (first | (go_at_call 49; refine (eqWrite_same _ _ _).mono ?_; rintro e w1 ⟨rfl, hb1⟩))
          all_goals
            go_wp2
            go_roundw
            case rel => exact ⟨i + 1, by omega, by go_num, hbel.drew.trans (hb1.mono hbel.size)⟩
            case measure => simp [intOf]; omega
        · go_wp2
          go_ret
          exact ⟨rfl, hbel⟩

theorem grownBy_of_below {w w' : World} (hb : Below w.heap.size w w') (r : Option Nat) : w.grownBy w' r := ⟨hb.os, hb.tape, hb.output, hb.size, fun k hk _ => hb.block k hk⟩

theorem grownBy_store (w : World) (g i : Nat) (v : Value) : w.grownBy (w.setCell ⟨g, i, none⟩ v) (some g) :=
  have b := (Below.refl 0 w).setCell (p := ⟨g, i, none⟩) (Nat.zero_le _) v
  ⟨b.os, b.tape, b.output, b.size, fun k _ hne => Below.heap_setCell w _ _ _ (fun e => hne (by rw [e]))⟩

/-- The first i elements of l put anew. -/
def putTo {α : Type} (m : Nat → α) (l : List α) (i : Nat) : List α := (List.range i).map m ++ l.drop i
theorem putTo_length {α : Type} {m : Nat → α} {i : Nat} {l : List α} (h : i ≤ l.length) : (putTo m l i).length = l.length := by simp [putTo]; omega
theorem putTo_set {α : Type} {m : Nat → α} {i : Nat} {l : List α} (h : i < l.length) : (putTo m l i).set i (m i) = putTo m l (i + 1) := by
  unfold putTo
  rw [List.set_append_right _ _ (by simp)]
  simp only [List.length_map, List.length_range, Nat.sub_self]
  rw [List.drop_eq_getElem_cons h, List.set_cons_zero, List.range_succ, List.map_append, List.append_assoc]
  rfl
theorem putTo_zero {α : Type} (m : Nat → α) (l : List α) : putTo m l 0 = l := by simp [putTo]
theorem putTo_all {α : Type} (m : Nat → α) (l : List α) : putTo m l l.length = (List.range l.length).map m := by simp [putTo]
theorem putTo_at {α : Type} {m : Nat → α} {i : Nat} {l : List α} (h : i < l.length) : (putTo m l i)[i]? = some l[i] := by
  unfold putTo
  rw [List.getElem?_append_right (by simp)]
  simp [h]

/-- The marks of a list of writes. -/
def markW (k : Nat) (j : Nat) : Wr := ⟨((k + 2 * j : Nat) : Int), mark (k + 2 * j + 1)⟩
def marksW (k n : Nat) : List Wr := (List.range n).map (markW k)
theorem marksW_length (k n : Nat) : (marksW k n).length = n := by simp [marksW]
theorem marksW_at {k n i : Nat} (h : i < n) : (marksW k n)[i]? = some (markW k i) := by simp [marksW, h]

set_option maxRecDepth 100000 in
set_option maxHeartbeats 1000000 in
theorem markWriteS_any (l : List Wr) (v : Value) (k B : Nat) (w0 w : World) (hb : RBuf wrE B w0 w v l) (hk : 1 ≤ k) (hk2 : k + 2 * l.length ≤ 1099511627776) :
    Calls Try.prog 32 #[v, .int .i64 (k : Int)] w fun e w' => e = .returned (.int .i64 ((k + 2 * l.length : Nat) : Int)) ∧ RBuf wrE B w0 w' v (marksW k l.length) ∧ w.grownBy w' v.ownBlock := by
  rcases hb.own.2 with ⟨rfl, h0⟩ | ⟨g, cap, cur, rfl, hg, hh, hnc, hcp, hcs, htake⟩
  · obtain rfl := List.length_eq_zero_iff.1 h0
    go_enter Try.func32, Try.ntmps32
    go_wp2
    go_loop [1, 5] (fun kv iv => kv = .int .i64 (k : Int) ∧ iv = .int .i64 0) (fun _ _ => 0)
    case atStart => exact ⟨rfl, rfl⟩
    case round =>
      obtain ⟨rfl, rfl⟩ := hrel
      go_wp2
      go_ret
      exact ⟨rfl, hb, World.grownBy.refl _ _⟩
  · clear hh hcs htake hcp
    have hle : l.length ≤ 1099511627776 := by omega
    go_enter Try.func32, Try.ntmps32
    go_wp2
    go_loopw [1, 5] (fun kv iv wr => ∃ i : Nat, i ≤ l.length ∧ iv = .int .i64 (i : Int) ∧ kv = .int .i64 ((k + 2 * i : Nat) : Int) ∧ RBuf wrE B w0 wr (.slice (some ⟨g, 0, none⟩) l.length cap) (putTo (markW k) l i) ∧ w.grownBy wr (some g)) (fun _ iv _ => l.length - (intOf iv).toNat)
    case atStart => exact ⟨0, by omega, rfl, rfl, by rw [putTo_zero]; exact hb, World.grownBy.refl _ _⟩
    case round =>
      obtain ⟨i, hi, rfl, rfl, hbr, hgr⟩ := hrel
      by_cases hlt : i < l.length
      · have hi0 : (0 : Int) ≤ (i : Int) := by omega
        have hi1 : (i : Int) < (l.length : Int) := by omega
        have hml := putTo_length (m := markW k) hi
        have hat := putTo_at (m := markW k) hlt
        have hms := Lib.hid (putTo_set (m := markW k) hlt)
        rw [← hml] at hbr
        obtain ⟨K, hK⟩ : ∃ K : Nat, K = k + 2 * i := ⟨_, rfl⟩
        have HK := Lib.hid hK
        rw [← hK]
        have hK1 : K + 1 ≤ 4611686018427387904 := by omega
        have hK2 : 1 ≤ K := by omega
        clear hK
        have c0 : wr.cell? ⟨g, i * 2, none⟩ = some (.int .i64 l[i].at_) := hbr.cell rfl i _ hat 0 _ rfl
        have f0 := hbr.loose (i * 2)
        have st0 : RBuf wrE B w0 (wr.setCell ⟨g, i * 2, none⟩ (.int .i64 (K : Int))) (.slice (some ⟨g, 0, none⟩) (putTo (markW k) l i).length cap) ((putTo (markW k) l i).set i ⟨(K : Int), l[i].text⟩) :=
          hbr.stored i _ ⟨(K : Int), l[i].text⟩ hat 0 (by decide) (.int .i64 (K : Int)) rfl
        have hg0 := grownBy_store wr g (i * 2) (.int .i64 (K : Int))
        have HF : Hid (∀ w1, Below (wr.setCell ⟨g, i * 2, none⟩ (.int .i64 (K : Int))).heap.size (wr.setCell ⟨g, i * 2, none⟩ (.int .i64 (K : Int))) w1 →
            (∃ t, w1.cell? ⟨g, i * 2 + 1, none⟩ = some (.string t)) ∧ w1.frozen? ⟨g, i * 2 + 1, none⟩ = false ∧
            RBuf wrE B w0 (w1.setCell ⟨g, i * 2 + 1, none⟩ (.string (mark (K + 1)))) (.slice (some ⟨g, 0, none⟩) l.length cap) (putTo (markW k) l (i + 1)) ∧ w.grownBy (w1.setCell ⟨g, i * 2 + 1, none⟩ (.string (mark (K + 1)))) (some g)) := by
          intro w1 hb1
          have st1 := st0.later hb1
          have hat1 : ((putTo (markW k) l i).set i ⟨(K : Int), l[i].text⟩)[i]? = some ⟨(K : Int), l[i].text⟩ := List.getElem?_set_self (by omega)
          have hl1 : ((putTo (markW k) l i).set i ⟨(K : Int), l[i].text⟩).length = (putTo (markW k) l i).length := by simp
          rw [← hl1] at st1
          have st2 := st1.stored i _ ⟨(K : Int), mark (K + 1)⟩ hat1 1 (by decide) (.string (mark (K + 1))) rfl
          rw [List.set_set, hl1, hml] at st2
          have e : (⟨(K : Int), mark (K + 1)⟩ : Wr) = markW k i := by rw [HK.out]; rfl
          rw [e, hms.out] at st2
          exact ⟨⟨_, st1.cell rfl i _ hat1 1 _ rfl⟩, st1.loose _, st2, ((hgr.trans hg0).trans (grownBy_of_below hb1 _)).trans (grownBy_store _ _ _ _)⟩
        clear hbr hat st0 hg0 hgr
        go_wp2_with (go_at_call 50; refine (markText_at _ (K + 1) _ (by omega) (by omega) (by omega)).mono ?_; rintro e w1 ⟨rfl, hb1⟩; obtain ⟨⟨t, hc1⟩, hf1, hst, hgr⟩ := HF.out w1 hb1)
        go_roundw
        case rel => exact ⟨i + 1, by omega, by go_num, by rw [HK.out]; go_num, hst, hgr⟩
        case measure => simp [intOf]; omega
      · have hfin : Hid (i = l.length) := by show i = l.length; omega
        go_wp2
        go_ret
        refine ⟨?_, ?_, hgr⟩
        · rw [← hfin.out]; rfl
        · have := hbr
          rw [hfin.out, putTo_all] at this
          exact this

set_option maxRecDepth 100000 in
set_option maxHeartbeats 1000000 in
theorem heldWriteS_any (n : Nat) (v : Value) (k : Nat) (w : World) (hb : Rows' wrE w v (marksW k n)) (hk : 1 ≤ k) (hk2 : k + 2 * n ≤ 1099511627776) :
    Calls Try.prog 34 #[v, .int .i64 (k : Int)] w fun e w' => e = .returned (.int .i64 ((k + 2 * n : Nat) : Int)) ∧ Below w.heap.size w w' := by
  have hmn := marksW_length k n
  rcases hb.ways with ⟨h0, a, c, rfl⟩ | ⟨hne, g, off, cap, rfl, hca, hg, hcl⟩
  · obtain rfl : n = 0 := by rw [h0] at hmn; simpa using hmn.symm
    clear hb h0 hmn
    go_enter Try.func34, Try.ntmps34
    go_wp2
    go_loop [1, 5] (fun kv iv => kv = .int .i64 (k : Int) ∧ iv = .int .i64 0) (fun _ _ => 0)
    case atStart => exact ⟨rfl, rfl⟩
    case round =>
      obtain ⟨rfl, rfl⟩ := hrel
      go_wp2
      go_ret
      exact ⟨rfl, Below.refl _ _⟩
  · rw [hmn] at *
    have HC := Lib.hid hcl
    clear hcl hb hne hmn
    go_enter Try.func34, Try.ntmps34
    go_wp2
    go_loopw [1, 5] (fun kv iv wr => ∃ i : Nat, i ≤ n ∧ iv = .int .i64 (i : Int) ∧ kv = .int .i64 ((k + 2 * i : Nat) : Int) ∧ Below w.heap.size w wr) (fun _ iv _ => n - (intOf iv).toNat)
    case atStart => exact ⟨0, by omega, rfl, rfl, Below.refl _ _⟩
    case round =>
      obtain ⟨i, hi, rfl, rfl, hbel⟩ := hrel
      by_cases hlt : i < n
      · have hi0 : (0 : Int) ≤ (i : Int) := by omega
        have hi1 : (i : Int) < (n : Int) := by omega
        obtain ⟨c0, c1⟩ := wr_cells rfl rfl HC.out hg hbel i _ (marksW_at hlt)
        obtain ⟨K, hK⟩ : ∃ K : Nat, K = k + 2 * i := ⟨_, rfl⟩
        have HK := Lib.hid hK
        obtain ⟨t, ht0⟩ : ∃ t, mark (K + 1) = t := ⟨_, rfl⟩
        have ht := Lib.hid ht0
        simp only [markW] at c0 c1
        rw [← hK] at c0 c1 ⊢
        rw [ht0] at c1
        have hK1 : K + 1 ≤ 4611686018427387904 := by omega
        have hK2 : 1 ≤ K := by omega
        have HS : Hid (∀ w', Below wr.drew.heap.size wr.drew w' → w'.cell? ⟨g, off + i * 2 + 1, none⟩ = some (.string t)) := by
          intro w' hw
          have hw2 : Below w.heap.size w w' := hbel.drew.trans (hw.mono hbel.size)
          obtain ⟨_, c1⟩ := wr_cells rfl rfl HC.out hg hw2 i _ (marksW_at hlt)
          simp only [markW] at c1
          rw [← HK.out, ht.out] at c1
          exact c1
        clear ht0 hK
        go_wp2
        go_region_held3 (fun w' => w'.cell? ⟨g, off + i * 2 + 1, none⟩ = some (.string t))
          (first | go_keep | exact HS.out _ hb1)
          (first | (go_at_call 50; refine (markText_at _ (K + 1) _ (by omega) (by omega) (by omega)).mono ?_; rintro e w1 ⟨rfl, hb1⟩; rw [ht.out]))
        all_goals
          go_wp2
          go_roundw
          case rel => exact ⟨i + 1, by omega, by go_num, by rw [HK.out]; go_num, hbel.drew.trans (hb1.mono hbel.size)⟩
          case measure => simp [intOf]; omega
      · have hfin : Hid (i = n) := by show i = n; omega
        go_wp2
        go_ret
        exact ⟨by rw [← hfin.out]; rfl, hbel⟩

/-! Lists of texts as rows. -/

theorem strE_row (l : List ByteArray) : strE.row l = strV l := by
  induction l with
  | nil => rfl
  | cons x l ih =>
    have : strE.row (x :: l) = .string x :: strE.row l := rfl
    rw [this, ih]; rfl

theorem RBuf.toS {B : Nat} {w0 w : World} {v : Value} {l : List ByteArray} (h : RBuf strE B w0 w v l) : SBuf B w0 w v l :=
  ⟨by have := h.own; rw [strE_row] at this; exact this, h.bel, h.le⟩
theorem SBuf.toR {B : Nat} {w0 w : World} {v : Value} {l : List ByteArray} (h : SBuf B w0 w v l) : RBuf strE B w0 w v l :=
  ⟨by rw [strE_row]; exact h.own, h.bel, h.le⟩

set_option maxRecDepth 100000 in
set_option maxHeartbeats 1000000 in
theorem markStringS_row (l : List ByteArray) (v : Value) (k B : Nat) (w0 w : World) (hb : SBuf B w0 w v l) (hk : 1 ≤ k) (hk2 : k + l.length ≤ 1099511627776) :
    Calls Try.prog 31 #[v, .int .i64 (k : Int)] w fun e w' => e = .returned (.int .i64 ((k + l.length : Nat) : Int)) ∧ SBuf B w0 w' v (marksOf k l.length) ∧ w.grownBy w' v.ownBlock := by
  rcases hb.own.2 with ⟨rfl, h0⟩ | ⟨g, cap, cur, rfl, hg, hh, hnc, hcp, hcs, htake⟩
  · obtain rfl := List.length_eq_zero_iff.1 h0
    go_enter Try.func31, Try.ntmps31
    go_wp2
    go_loop [1, 5] (fun kv iv => kv = .int .i64 (k : Int) ∧ iv = .int .i64 0) (fun _ _ => 0)
    case atStart => exact ⟨rfl, rfl⟩
    case round =>
      obtain ⟨rfl, rfl⟩ := hrel
      go_wp2
      go_ret
      exact ⟨rfl, hb, World.grownBy.refl _ _⟩
  · clear hh hcs htake hcp
    have hle : l.length ≤ 1099511627776 := by omega
    go_enter Try.func31, Try.ntmps31
    go_wp2
    go_loopw [1, 5] (fun kv iv wr => ∃ i : Nat, i ≤ l.length ∧ iv = .int .i64 (i : Int) ∧ kv = .int .i64 ((k + i : Nat) : Int) ∧ SBuf B w0 wr (.slice (some ⟨g, 0, none⟩) l.length cap) (markTo k l i) ∧ w.grownBy wr (some g)) (fun _ iv _ => l.length - (intOf iv).toNat)
    case atStart => exact ⟨0, by omega, rfl, rfl, by rw [markTo_zero]; exact hb, World.grownBy.refl _ _⟩
    case round =>
      obtain ⟨i, hi, rfl, rfl, hbr, hgr⟩ := hrel
      by_cases hlt : i < l.length
      · have hi0 : (0 : Int) ≤ (i : Int) := by omega
        have hi1 : (i : Int) < (l.length : Int) := by omega
        have hml := markTo_length (k := k) hi
        have hms : Hid ((markTo k l i).set i (mark (k + i)) = markTo k l (i + 1)) := markTo_set hlt
        have HF : Hid (∀ w1, Below wr.heap.size wr w1 → ∃ t, w1.cell? ⟨g, i, none⟩ = some (.string t) ∧ w1.frozen? ⟨g, i, none⟩ = false) := by
          intro w1 hb1
          have hb2 := hbr.later hb1
          rw [← hml] at hb2
          refine ⟨(markTo k l i)[i]'(by omega), ?_, hb2.own.frozenAt i⟩
          rw [hb2.own.cellAt i (by omega)]
          simp [strV]
        have HG := Lib.hid hgr
        clear hgr
        go_wp2_with (go_at_call 50; refine (markText_at _ (k + i) _ (by omega) (by omega) (by omega)).mono ?_; rintro e w1 ⟨rfl, hb1⟩; obtain ⟨t, hc1, hf1⟩ := HF.out w1 hb1)
        have hb2 := hbr.later hb1
        have hst : SBuf B w0 (w1.setCell ⟨g, i, none⟩ (.string (mark (k + i)))) (.slice (some ⟨g, 0, none⟩) l.length cap) (markTo k l (i + 1)) := by
          rw [← hml] at hb2
          have := hb2.stored i (mark (k + i))
          rw [hms.out, hml] at this
          exact this
        have hg2 := (HG.out.trans (grownBy_of_below hb1 (some g))).trans (grownBy_store w1 g i (.string (mark (k + i))))
        go_roundw
        case rel => exact ⟨i + 1, by omega, by go_num, by go_num, hst, hg2⟩
        case measure => simp [intOf]; omega
      · have hfin : Hid (i = l.length) := by show i = l.length; omega
        go_wp2
        go_ret
        refine ⟨?_, ?_, hgr⟩
        · rw [← hfin.out]; rfl
        · have := hbr
          rw [hfin.out, markTo_all] at this
          exact this

end Go.Proofs.Ytegjkcooebmkoap
