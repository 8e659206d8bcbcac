/- Texts of our own, joined. -/
import Derived.Test.YtieenkloiicnkaaGreatDoorJa
import Derived.Lib.Hide
import Derived.Lib.SmallJoins
/- The helpers of the exact laws over lists of writes: two alike are alike; each is marked, and the marks are held. -/
namespace Go.Proofs.YtieenkloiicnkaaGreatDoor
open Go.RowKit

theorem eqWrite_same (n : Int) (s : ByteArray) (w : World) :
    Calls Tryz.prog 79 #[.agg #[.int .i64 n, .string s], .agg #[.int .i64 n, .string s]] w fun e w' => e = .returned (.bool true) ∧ Below w.heap.size w w' := by
  go_enter Tryz.func79, Tryz.ntmps79
  go_wp2
  go_ret
  exact ⟨rfl, ((Below.refl _ _).alloc (Nat.le_refl _) _).alloc (by simp) _⟩

/-- The two cells of a write. -/
theorem wr_cells {E : Enc Wr} (hf : E.f = wrE.f) (hz : E.sz = 2) {w w' : World} {g off : Nat} {l : List Wr} (hc : ∀ j x, l[j]? = some x → ∀ k u, (E.f x)[k]? = some u → w.cell? ⟨g, off + j * E.sz + k, none⟩ = some u)
    (hg : g < w.heap.size) (hb : Below w.heap.size w w') (i : Nat) (x : Wr) (hi : l[i]? = some x) :
    w'.cell? ⟨g, off + i * 2, none⟩ = some (.int .i64 x.at_) ∧ w'.cell? ⟨g, off + i * 2 + 1, none⟩ = some (.string x.text) := by
  have h0 := hc i x hi 0 (.int .i64 x.at_) (by rw [hf]; rfl)
  have h1 := hc i x hi 1 (.string x.text) (by rw [hf]; rfl)
  rw [hz] at h0 h1
  exact ⟨(hb.cell (p := ⟨g, off + i * 2, none⟩) hg).trans h0, (hb.cell (p := ⟨g, off + i * 2 + 1, none⟩) hg).trans h1⟩

set_option maxRecDepth 100000 in
set_option maxHeartbeats 1000000 in
theorem eqWriteS_same (l : List Wr) (va vb : Value) (w : World) (ha : Rows' wrE w va l) (hb : Rows' wrE w vb l) (hl : l.length ≤ 1099511627776) :
    Calls Tryz.prog 37 #[va, vb] w fun e w' => e = .returned (.bool true) ∧ Below w.heap.size w w' := by
  rcases ha.ways with ⟨rfl, a, c, rfl⟩ | ⟨hne, ga, oa, ca, rfl, hca, hga, hcla⟩
  · rcases hb.ways with ⟨_, b, d, rfl⟩ | ⟨hne, _⟩
    · clear ha hb
      go_enter Tryz.func37, Tryz.ntmps37
      go_wp2
      go_loop [5] (fun iv => iv = .int .i64 0) (fun _ => 0)
      case atStart => rfl
      case round =>
        obtain rfl := hrel
        go_wp2
        go_ret
        exact ⟨rfl, Below.refl _ _⟩
    · exact absurd rfl hne
  · rcases hb.ways with ⟨e, _⟩ | ⟨_, gb, ob, cb, rfl, hcb, hgb, hclb⟩
    · exact absurd e hne
    · clear ha hb
      have HA := Lib.hid hcla
      have HB := Lib.hid hclb
      clear hcla hclb
      go_enter Tryz.func37, Tryz.ntmps37
      go_wp2
      go_loopw [5] (fun iv wr => ∃ i : Nat, i ≤ l.length ∧ iv = .int .i64 (i : Int) ∧ Below w.heap.size w wr) (fun iv _ => l.length - (intOf iv).toNat)
      case atStart => exact ⟨0, by omega, rfl, Below.refl _ _⟩
      case round =>
        obtain ⟨i, hi, rfl, hbel⟩ := hrel
        by_cases hlt : i < l.length
        · have hg : l[i]? = some l[i] := List.getElem?_eq_getElem hlt
          obtain ⟨a0, a1⟩ := wr_cells rfl rfl HA.out hga hbel i _ hg
          obtain ⟨b0, b1⟩ := wr_cells rfl rfl HB.out hgb hbel i _ hg
          generalize l[i] = t at *
          obtain ⟨n, s⟩ := t
          simp only at a0 a1 b0 b1
          have hi0 : (0 : Int) ≤ (i : Int) := by omega
          have hi1 : (i : Int) < (l.length : Int) := by omega
          have HS : Hid (∀ w', Below wr.drew.heap.size wr.drew w' → w'.cell? ⟨ga, oa + i * 2, none⟩ = some (.int .i64 n) ∧ w'.cell? ⟨ga, oa + i * 2 + 1, none⟩ = some (.string s) ∧ w'.cell? ⟨gb, ob + i * 2, none⟩ = some (.int .i64 n) ∧ w'.cell? ⟨gb, ob + i * 2 + 1, none⟩ = some (.string s)) := by
            intro w' hw
            have hw2 : Below w.heap.size w w' := hbel.drew.trans (hw.mono hbel.size)
            obtain ⟨a0, a1⟩ := wr_cells rfl rfl HA.out hga hw2 i _ hg
            obtain ⟨b0, b1⟩ := wr_cells rfl rfl HB.out hgb hw2 i _ hg
            exact ⟨a0, a1, b0, b1⟩
          clear hg
          go_wp2
          go_region_held3 (fun w' => w'.cell? ⟨ga, oa + i * 2, none⟩ = some (.int .i64 n) ∧ w'.cell? ⟨ga, oa + i * 2 + 1, none⟩ = some (.string s) ∧ w'.cell? ⟨gb, ob + i * 2, none⟩ = some (.int .i64 n) ∧ w'.cell? ⟨gb, ob + i * 2 + 1, none⟩ = some (.string s))
            (first | go_keep | exact HS.out _ hb1)
            (first | (go_at_call 79; refine (eqWrite_same _ _ _).mono ?_; rintro e w1 ⟨rfl, hb1⟩))
          all_goals
            go_wp2
            go_roundw
            case rel => exact ⟨i + 1, by omega, by go_num, hbel.drew.trans (hb1.mono hbel.size)⟩
            case measure => simp [intOf]; omega
        · go_wp2
          go_ret
          exact ⟨rfl, hbel⟩

/-- The marks of a list of writes. -/
def markW (k : Nat) (j : Nat) : Wr := ⟨((k + 2 * j : Nat) : Int), mark (k + 2 * j + 1)⟩
def marksW (k n : Nat) : List Wr := (List.range n).map (markW k)
theorem marksW_length (k n : Nat) : (marksW k n).length = n := by simp [marksW]
theorem marksW_at {k n i : Nat} (h : i < n) : (marksW k n)[i]? = some (markW k i) := by simp [marksW, h]

set_option maxRecDepth 100000 in
set_option maxHeartbeats 1000000 in
theorem markWriteS_any (l : List Wr) (v : Value) (k B : Nat) (w0 w : World) (hb : RBuf wrE B w0 w v l) (hk : 1 ≤ k) (hk2 : k + 2 * l.length ≤ 1099511627776) :
    Calls Tryz.prog 39 #[v, .int .i64 (k : Int)] w fun e w' => e = .returned (.int .i64 ((k + 2 * l.length : Nat) : Int)) ∧ RBuf wrE B w0 w' v (marksW k l.length) ∧ w.grownBy w' v.ownBlock := by
  rcases hb.own.2 with ⟨rfl, h0⟩ | ⟨g, cap, cur, rfl, hg, hh, hnc, hcp, hcs, htake⟩
  · obtain rfl := List.length_eq_zero_iff.1 h0
    go_enter Tryz.func39, Tryz.ntmps39
    go_wp2
    go_loop [1, 5] (fun kv iv => kv = .int .i64 (k : Int) ∧ iv = .int .i64 0) (fun _ _ => 0)
    case atStart => exact ⟨rfl, rfl⟩
    case round =>
      obtain ⟨rfl, rfl⟩ := hrel
      go_wp2
      go_ret
      exact ⟨rfl, hb, World.grownBy.refl _ _⟩
  · clear hh hcs htake hcp
    have hle : l.length ≤ 1099511627776 := by omega
    go_enter Tryz.func39, Tryz.ntmps39
    go_wp2
    go_loopw [1, 5] (fun kv iv wr => ∃ i : Nat, i ≤ l.length ∧ iv = .int .i64 (i : Int) ∧ kv = .int .i64 ((k + 2 * i : Nat) : Int) ∧ RBuf wrE B w0 wr (.slice (some ⟨g, 0, none⟩) l.length cap) (putTo (markW k) l i) ∧ w.grownBy wr (some g)) (fun _ iv _ => l.length - (intOf iv).toNat)
    case atStart => exact ⟨0, by omega, rfl, rfl, by rw [putTo_zero]; exact hb, World.grownBy.refl _ _⟩
    case round =>
      obtain ⟨i, hi, rfl, rfl, hbr, hgr⟩ := hrel
      by_cases hlt : i < l.length
      · have hi0 : (0 : Int) ≤ (i : Int) := by omega
        have hi1 : (i : Int) < (l.length : Int) := by omega
        have hml := putTo_length (m := markW k) hi
        have hat := putTo_at (m := markW k) hlt
        have hms := Lib.hid (putTo_set (m := markW k) hlt)
        rw [← hml] at hbr
        obtain ⟨K, hK⟩ : ∃ K : Nat, K = k + 2 * i := ⟨_, rfl⟩
        have HK := Lib.hid hK
        rw [← hK]
        have hK1 : K + 1 ≤ 4611686018427387904 := by omega
        have hK2 : 1 ≤ K := by omega
        clear hK
        have c0 : wr.cell? ⟨g, i * 2, none⟩ = some (.int .i64 l[i].at_) := hbr.cell rfl i _ hat 0 _ rfl
        have f0 := hbr.loose (i * 2)
        have st0 : RBuf wrE B w0 (wr.setCell ⟨g, i * 2, none⟩ (.int .i64 (K : Int))) (.slice (some ⟨g, 0, none⟩) (putTo (markW k) l i).length cap) ((putTo (markW k) l i).set i ⟨(K : Int), l[i].text⟩) :=
          hbr.stored i _ ⟨(K : Int), l[i].text⟩ hat 0 (by decide) (.int .i64 (K : Int)) rfl
        have hg0 := grownBy_store wr g (i * 2) (.int .i64 (K : Int))
        have HF : Hid (∀ w1, Below (wr.setCell ⟨g, i * 2, none⟩ (.int .i64 (K : Int))).heap.size (wr.setCell ⟨g, i * 2, none⟩ (.int .i64 (K : Int))) w1 →
            (∃ t, w1.cell? ⟨g, i * 2 + 1, none⟩ = some (.string t)) ∧ w1.frozen? ⟨g, i * 2 + 1, none⟩ = false ∧
            RBuf wrE B w0 (w1.setCell ⟨g, i * 2 + 1, none⟩ (.string (mark (K + 1)))) (.slice (some ⟨g, 0, none⟩) l.length cap) (putTo (markW k) l (i + 1)) ∧ w.grownBy (w1.setCell ⟨g, i * 2 + 1, none⟩ (.string (mark (K + 1)))) (some g)) := by
          intro w1 hb1
          have st1 := st0.later hb1
          have hat1 : ((putTo (markW k) l i).set i ⟨(K : Int), l[i].text⟩)[i]? = some ⟨(K : Int), l[i].text⟩ := List.getElem?_set_self (by omega)
          have hl1 : ((putTo (markW k) l i).set i ⟨(K : Int), l[i].text⟩).length = (putTo (markW k) l i).length := by simp
          rw [← hl1] at st1
          have st2 := st1.stored i _ ⟨(K : Int), mark (K + 1)⟩ hat1 1 (by decide) (.string (mark (K + 1))) rfl
          rw [List.set_set, hl1, hml] at st2
          have e : (⟨(K : Int), mark (K + 1)⟩ : Wr) = markW k i := by rw [HK.out]; rfl
          rw [e, hms.out] at st2
          exact ⟨⟨_, st1.cell rfl i _ hat1 1 _ rfl⟩, st1.loose _, st2, ((hgr.trans hg0).trans (grownBy_of_below hb1 _)).trans (grownBy_store _ _ _ _)⟩
        clear hbr hat st0 hg0 hgr
        go_wp2_with (go_at_call 80; refine (markText_at _ (K + 1) _ (by omega) (by omega) (by omega)).mono ?_; rintro e w1 ⟨rfl, hb1⟩; obtain ⟨⟨t, hc1⟩, hf1, hst, hgr⟩ := HF.out w1 hb1)
        go_roundw
        case rel => exact ⟨i + 1, by omega, by go_num, by rw [HK.out]; go_num, hst, hgr⟩
        case measure => simp [intOf]; omega
      · have hfin : Hid (i = l.length) := by show i = l.length; omega
        go_wp2
        go_ret
        refine ⟨?_, ?_, hgr⟩
        · rw [← hfin.out]; rfl
        · have := hbr
          rw [hfin.out, putTo_all] at this
          exact this

set_option maxRecDepth 100000 in
set_option maxHeartbeats 1000000 in
theorem heldWriteS_any (n : Nat) (v : Value) (k : Nat) (w : World) (hb : Rows' wrE w v (marksW k n)) (hk : 1 ≤ k) (hk2 : k + 2 * n ≤ 1099511627776) :
    Calls Tryz.prog 55 #[v, .int .i64 (k : Int)] w fun e w' => e = .returned (.int .i64 ((k + 2 * n : Nat) : Int)) ∧ Below w.heap.size w w' := by
  have hmn := marksW_length k n
  rcases hb.ways with ⟨h0, a, c, rfl⟩ | ⟨hne, g, off, cap, rfl, hca, hg, hcl⟩
  · obtain rfl : n = 0 := by rw [h0] at hmn; simpa using hmn.symm
    clear hb h0 hmn
    go_enter Tryz.func55, Tryz.ntmps55
    go_wp2
    go_loop [1, 5] (fun kv iv => kv = .int .i64 (k : Int) ∧ iv = .int .i64 0) (fun _ _ => 0)
    case atStart => exact ⟨rfl, rfl⟩
    case round =>
      obtain ⟨rfl, rfl⟩ := hrel
      go_wp2
      go_ret
      exact ⟨rfl, Below.refl _ _⟩
  · rw [hmn] at *
    have HC := Lib.hid hcl
    clear hcl hb hne hmn
    go_enter Tryz.func55, Tryz.ntmps55
    go_wp2
    go_loopw [1, 5] (fun kv iv wr => ∃ i : Nat, i ≤ n ∧ iv = .int .i64 (i : Int) ∧ kv = .int .i64 ((k + 2 * i : Nat) : Int) ∧ Below w.heap.size w wr) (fun _ iv _ => n - (intOf iv).toNat)
    case atStart => exact ⟨0, by omega, rfl, rfl, Below.refl _ _⟩
    case round =>
      obtain ⟨i, hi, rfl, rfl, hbel⟩ := hrel
      by_cases hlt : i < n
      · have hi0 : (0 : Int) ≤ (i : Int) := by omega
        have hi1 : (i : Int) < (n : Int) := by omega
        obtain ⟨c0, c1⟩ := wr_cells rfl rfl HC.out hg hbel i _ (marksW_at hlt)
        obtain ⟨K, hK⟩ : ∃ K : Nat, K = k + 2 * i := ⟨_, rfl⟩
        have HK := Lib.hid hK
        obtain ⟨t, ht0⟩ : ∃ t, mark (K + 1) = t := ⟨_, rfl⟩
        have ht := Lib.hid ht0
        simp only [markW] at c0 c1
        rw [← hK] at c0 c1 ⊢
        rw [ht0] at c1
        have hK1 : K + 1 ≤ 4611686018427387904 := by omega
        have hK2 : 1 ≤ K := by omega
        have HS : Hid (∀ w', Below wr.drew.heap.size wr.drew w' → w'.cell? ⟨g, off + i * 2 + 1, none⟩ = some (.string t)) := by
          intro w' hw
          have hw2 : Below w.heap.size w w' := hbel.drew.trans (hw.mono hbel.size)
          obtain ⟨_, c1⟩ := wr_cells rfl rfl HC.out hg hw2 i _ (marksW_at hlt)
          simp only [markW] at c1
          rw [← HK.out, ht.out] at c1
          exact c1
        clear ht0 hK
        go_wp2
        go_region_held3 (fun w' => w'.cell? ⟨g, off + i * 2 + 1, none⟩ = some (.string t))
          (first | go_keep | exact HS.out _ hb1)
          (first | (go_at_call 80; refine (markText_at _ (K + 1) _ (by omega) (by omega) (by omega)).mono ?_; rintro e w1 ⟨rfl, hb1⟩; rw [ht.out]))
        all_goals
          go_wp2
          go_roundw
          case rel => exact ⟨i + 1, by omega, by go_num, by rw [HK.out]; go_num, hbel.drew.trans (hb1.mono hbel.size)⟩
          case measure => simp [intOf]; omega
      · have hfin : Hid (i = n) := by show i = n; omega
        go_wp2
        go_ret
        exact ⟨by rw [← hfin.out]; rfl, hbel⟩

/-! Lists of texts as rows. -/

theorem strE_row (l : List ByteArray) : strE.row l = strV l := by
  induction l with
  | nil => rfl
  | cons x l ih =>
    have : strE.row (x :: l) = .string x :: strE.row l := rfl
    rw [this, ih]; rfl

theorem RBuf.toS {B : Nat} {w0 w : World} {v : Value} {l : List ByteArray} (h : RBuf strE B w0 w v l) : SBuf B w0 w v l :=
  ⟨by have := h.own; rw [strE_row] at this; exact this, h.bel, h.le⟩
theorem SBuf.toR {B : Nat} {w0 w : World} {v : Value} {l : List ByteArray} (h : SBuf B w0 w v l) : RBuf strE B w0 w v l :=
  ⟨by rw [strE_row]; exact h.own, h.bel, h.le⟩

set_option maxRecDepth 100000 in
set_option maxHeartbeats 1000000 in
theorem markStringS_row (l : List ByteArray) (v : Value) (k B : Nat) (w0 w : World) (hb : SBuf B w0 w v l) (hk : 1 ≤ k) (hk2 : k + l.length ≤ 1099511627776) :
    Calls Tryz.prog 38 #[v, .int .i64 (k : Int)] w fun e w' => e = .returned (.int .i64 ((k + l.length : Nat) : Int)) ∧ SBuf B w0 w' v (marksOf k l.length) ∧ w.grownBy w' v.ownBlock := by
  rcases hb.own.2 with ⟨rfl, h0⟩ | ⟨g, cap, cur, rfl, hg, hh, hnc, hcp, hcs, htake⟩
  · obtain rfl := List.length_eq_zero_iff.1 h0
    go_enter Tryz.func38, Tryz.ntmps38
    go_wp2
    go_loop [1, 5] (fun kv iv => kv = .int .i64 (k : Int) ∧ iv = .int .i64 0) (fun _ _ => 0)
    case atStart => exact ⟨rfl, rfl⟩
    case round =>
      obtain ⟨rfl, rfl⟩ := hrel
      go_wp2
      go_ret
      exact ⟨rfl, hb, World.grownBy.refl _ _⟩
  · clear hh hcs htake hcp
    have hle : l.length ≤ 1099511627776 := by omega
    go_enter Tryz.func38, Tryz.ntmps38
    go_wp2
    go_loopw [1, 5] (fun kv iv wr => ∃ i : Nat, i ≤ l.length ∧ iv = .int .i64 (i : Int) ∧ kv = .int .i64 ((k + i : Nat) : Int) ∧ SBuf B w0 wr (.slice (some ⟨g, 0, none⟩) l.length cap) (markTo k l i) ∧ w.grownBy wr (some g)) (fun _ iv _ => l.length - (intOf iv).toNat)
    case atStart => exact ⟨0, by omega, rfl, rfl, by rw [markTo_zero]; exact hb, World.grownBy.refl _ _⟩
    case round =>
      obtain ⟨i, hi, rfl, rfl, hbr, hgr⟩ := hrel
      by_cases hlt : i < l.length
      · have hi0 : (0 : Int) ≤ (i : Int) := by omega
        have hi1 : (i : Int) < (l.length : Int) := by omega
        have hml := markTo_length (k := k) hi
        have hms : Hid ((markTo k l i).set i (mark (k + i)) = markTo k l (i + 1)) := markTo_set hlt
        have HF : Hid (∀ w1, Below wr.heap.size wr w1 → ∃ t, w1.cell? ⟨g, i, none⟩ = some (.string t) ∧ w1.frozen? ⟨g, i, none⟩ = false) := by
          intro w1 hb1
          have hb2 := hbr.later hb1
          rw [← hml] at hb2
          refine ⟨(markTo k l i)[i]'(by omega), ?_, hb2.own.frozenAt i⟩
          rw [hb2.own.cellAt i (by omega)]
          simp [strV]
        have HG := Lib.hid hgr
        clear hgr
        go_wp2_with (go_at_call 80; refine (markText_at _ (k + i) _ (by omega) (by omega) (by omega)).mono ?_; rintro e w1 ⟨rfl, hb1⟩; obtain ⟨t, hc1, hf1⟩ := HF.out w1 hb1)
        have hb2 := hbr.later hb1
        have hst : SBuf B w0 (w1.setCell ⟨g, i, none⟩ (.string (mark (k + i)))) (.slice (some ⟨g, 0, none⟩) l.length cap) (markTo k l (i + 1)) := by
          rw [← hml] at hb2
          have := hb2.stored i (mark (k + i))
          rw [hms.out, hml] at this
          exact this
        have hg2 := (HG.out.trans (grownBy_of_below hb1 (some g))).trans (grownBy_store w1 g i (.string (mark (k + i))))
        go_roundw
        case rel => exact ⟨i + 1, by omega, by go_num, by go_num, hst, hg2⟩
        case measure => simp [intOf]; omega
      · have hfin : Hid (i = l.length) := by show i = l.length; omega
        go_wp2
        go_ret
        refine ⟨?_, ?_, hgr⟩
        · rw [← hfin.out]; rfl
        · have := hbr
          rw [hfin.out, markTo_all] at this
          exact this

end Go.Proofs.YtieenkloiicnkaaGreatDoor

/- A variable of the call's own. -/
namespace Go.Proofs.YtieenkloiicnkaaGreatDoor
open Go.RowKit

theorem stored_grown (w : World) (g i : Nat) (v : Value) : w.grownBy (w.setCell ⟨g, i, none⟩ v) (some g) :=
  have b := (Below.refl 0 w).setCell (p := ⟨g, i, none⟩) (Nat.zero_le _) v
  ⟨b.os, b.tape, b.output, b.size, fun k _ hne => Below.heap_setCell w _ _ _ (fun e => hne (by rw [e]))⟩

variable {w w' : World}

/-- A variable of the call's own: its cells stand in the block b. -/
def Box (w : World) (b : Nat) (cs : Array Value) (t : TypeId) : Prop := w.heap[b]? = some (.cells cs t (0, 0))

theorem Box.new (w : World) (cs : Array Value) (t : TypeId) : Box (w.alloc (.cells cs t)) w.heap.size cs t := heap_alloc_new w _
theorem Box.lt {b : Nat} {cs : Array Value} {t : TypeId} (h : Box w b cs t) : b < w.heap.size := (Array.getElem?_eq_some_iff.1 h).1
theorem Box.cell {b : Nat} {cs : Array Value} {t : TypeId} (h : Box w b cs t) (j : Nat) (u : Value) (hu : cs[j]? = some u) : w.cell? ⟨b, j, none⟩ = some u := by
  rw [Joins.cell_of_block h, hu]
theorem Box.loose {b : Nat} {cs : Array Value} {t : TypeId} (h : Box w b cs t) (j : Nat) : w.frozen? ⟨b, j, none⟩ = false := Joins.unfrozen_of_block h j
theorem Box.later {b : Nat} {cs : Array Value} {t : TypeId} (h : Box w b cs t) (hb : Below w.heap.size w w') : Box w' b cs t := (hb.block b h.lt).trans h
theorem Box.under {b B : Nat} {cs : Array Value} {t : TypeId} (h : Box w b cs t) (hb : Below B w w') (hl : b < B) : Box w' b cs t := (hb.block b hl).trans h
theorem Box.set {b : Nat} {cs : Array Value} {t : TypeId} (h : Box w b cs t) (j : Nat) (u : Value) : Box (w.setCell ⟨b, j, none⟩ u) b (cs.setIfInBounds j u) t := Joins.block_setCell h u
theorem Box.other {b g : Nat} {cs : Array Value} {t : TypeId} (h : Box w b cs t) (hne : b ≠ g) (j : Nat) (u : Value) : Box (w.setCell ⟨g, j, none⟩ u) b cs t :=
  ((stored_grown w g j u).block b h.lt (fun e => hne (Option.some.inj e))).trans h

/-- The three cells of a variable. -/
theorem Box.three {b : Nat} {u0 u1 u2 : Value} {t : TypeId} (h : Box w b #[u0, u1, u2] t) : w.cell? ⟨b, 0, none⟩ = some u0 ∧ w.cell? ⟨b, 1, none⟩ = some u1 ∧ w.cell? ⟨b, 2, none⟩ = some u2 ∧ w.frozen? ⟨b, 0, none⟩ = false ∧ w.frozen? ⟨b, 1, none⟩ = false ∧ w.frozen? ⟨b, 2, none⟩ = false :=
  ⟨h.cell 0 _ rfl, h.cell 1 _ rfl, h.cell 2 _ rfl, h.loose 0, h.loose 1, h.loose 2⟩
/-- The three cells stored. -/
def set3 (w : World) (b : Nat) (v0 v1 v2 : Value) : World := ((w.setCell ⟨b, 0, none⟩ v0).setCell ⟨b, 1, none⟩ v1).setCell ⟨b, 2, none⟩ v2
theorem Box.set3 {b : Nat} {u0 u1 u2 : Value} {t : TypeId} (h : Box w b #[u0, u1, u2] t) (v0 v1 v2 : Value) : Box (set3 w b v0 v1 v2) b #[v0, v1, v2] t := ((h.set 0 v0).set 1 v1).set 2 v2
theorem below_set3 {B b : Nat} {w0 : World} (h : Below B w0 w) (hb : B ≤ b) (v0 v1 v2 : Value) : Below B w0 (set3 w b v0 v1 v2) :=
  ((h.setCell (p := ⟨b, 0, none⟩) hb v0).setCell (p := ⟨b, 1, none⟩) hb v1).setCell (p := ⟨b, 2, none⟩) hb v2

end Go.Proofs.YtieenkloiicnkaaGreatDoor

/- What a value owns: its memory lies between two marks of the heap, and what is written elsewhere leaves it alone. -/
namespace Go.Proofs.YtieenkloiicnkaaGreatDoor
open Go.RowKit

/-- Whatever was there outside the blocks B .. T-1 is as it was. -/
structure Kept (B T : Nat) (w w' : World) : Prop where
  os : w'.os = w.os
  tape : w'.tape = w.tape
  output : w'.output = w.output
  size : w.heap.size ≤ w'.heap.size
  block : ∀ k, k < w.heap.size → (k < B ∨ T ≤ k) → w'.heap[k]? = w.heap[k]?

theorem Kept.of_below {w w' : World} (hb : Below w.heap.size w w') (B T : Nat) : Kept B T w w' := ⟨hb.os, hb.tape, hb.output, hb.size, fun k hk _ => hb.block k hk⟩
theorem Kept.of_grown {w w' : World} {r : Option Nat} {B T : Nat} (h : w.grownBy w' r) (hr : ∀ k, r = some k → B ≤ k ∧ k < T) : Kept B T w w' :=
  ⟨h.os, h.tape, h.output, h.size, fun k hk hout => h.block k hk (fun e => by have := hr k e.symm; omega)⟩
theorem Kept.trans {B T : Nat} {w w1 w2 : World} (h : Kept B T w w1) (h2 : Kept B T w1 w2) : Kept B T w w2 :=
  ⟨h2.os.trans h.os, h2.tape.trans h.tape, h2.output.trans h.output, Nat.le_trans h.size h2.size, fun k hk hout => (h2.block k (Nat.lt_of_lt_of_le hk h.size) hout).trans (h.block k hk hout)⟩
theorem Kept.below {B T B0 : Nat} {w0 w w' : World} (h : Kept B T w w') (hb : Below B0 w0 w) (h0 : B0 ≤ B) (hs : B0 ≤ w.heap.size) : Below B0 w0 w' :=
  ⟨h.os.trans hb.os, h.tape.trans hb.tape, h.output.trans hb.output, Nat.le_trans hb.size h.size, fun k hk => (h.block k (Nat.lt_of_lt_of_le hk hs) (.inl (Nat.lt_of_lt_of_le hk h0))).trans (hb.block k hk)⟩

variable {α : Type} {E : Enc α} {B T : Nat} {w w' : World} {v : Value} {l : List α}

/-- The slice v holds the elements l in a row of its own, in one of the blocks B .. T-1. -/
def LOwn (E : Enc α) (B T : Nat) (w : World) (v : Value) (l : List α) : Prop := RBuf E B w w v l ∧ T ≤ w.heap.size ∧ ∀ k, v.ownBlock = some k → k < T

theorem RBuf.lown {w0 : World} (h : RBuf E B w0 w v l) : LOwn E B w.heap.size w v l := ⟨h.here, Nat.le_refl _, fun k hk => (h.own.lt k hk).2⟩

theorem LOwn.kept {B' T' : Nat} (h : LOwn E B T w v l) (hk : Kept B' T' w w') (hd : T ≤ B' ∨ T' ≤ B) : LOwn E B T w' v l := by
  refine ⟨⟨⟨h.1.own.1, ?_⟩, Below.refl _ _, Nat.le_trans h.1.le hk.size⟩, Nat.le_trans h.2.1 hk.size, h.2.2⟩
  rcases h.1.own.2 with h1 | ⟨g, cap, cur, h1, h2, h3, h4⟩
  · exact .inl h1
  · have hg := h.2.2 g (by rw [h1]; rfl)
    refine .inr ⟨g, cap, cur, h1, h2, ?_, h4⟩
    rw [hk.block g (Nat.lt_of_lt_of_le hg h.2.1) (by omega)]
    exact h3

theorem LOwn.later (h : LOwn E B T w v l) (hb : Below w.heap.size w w') : LOwn E B T w' v l :=
  h.kept (Kept.of_below hb T T) (.inl (Nat.le_refl _))

theorem LOwn.wider {T' : Nat} (h : LOwn E B T w v l) (hT : T ≤ T') (hs : T' ≤ w.heap.size) : LOwn E B T' w v l := ⟨h.1, hs, fun k hk => Nat.lt_of_lt_of_le (h.2.2 k hk) hT⟩

theorem LOwn.deeper {B' : Nat} (h : LOwn E B T w v l) (hB : B' ≤ B) : LOwn E B' T w v l := ⟨h.1.down (Below.refl _ _) hB, h.2⟩

theorem LOwn.rows (h : LOwn E B T w v l) : Rows' E w v l := h.1.rows

/-- A store by another name leaves a row alone whose block is another. -/
theorem LOwn.grown {r : Option Nat} (h : LOwn E B T w v l) (hg : w.grownBy w' r) (hne : v.ownBlock = none ∨ v.ownBlock ≠ r) : LOwn E B T w' v l :=
  ⟨⟨h.1.own.kept hg hne, Below.refl _ _, Nat.le_trans h.1.le hg.size⟩, Nat.le_trans h.2.1 hg.size, h.2.2⟩

/-- A store below the row's base leaves it alone. -/
theorem LOwn.store (h : LOwn E B T w v l) (g i : Nat) (u : Value) (hg : g < B) : LOwn E B T (w.setCell ⟨g, i, none⟩ u) v l := by
  refine h.grown (stored_grown w g i u) ?_
  cases hv : v.ownBlock with
  | none => exact .inl rfl
  | some k => exact .inr (by intro e; have := (h.1.own.lt k hv).1; have := Option.some.inj e; omega)

theorem LOwn.storeHi (h : LOwn E B T w v l) (g i : Nat) (u : Value) (hg : T ≤ g) : LOwn E B T (w.setCell ⟨g, i, none⟩ u) v l := by
  refine h.grown (stored_grown w g i u) ?_
  cases hv : v.ownBlock with
  | none => exact .inl rfl
  | some k => exact .inr (by intro e; have := h.2.2 k hv; have := Option.some.inj e; omega)

end Go.Proofs.YtieenkloiicnkaaGreatDoor

/- Lists copied element by element. -/
namespace Go.Proofs.YtieenkloiicnkaaGreatDoor
open Go.RowKit

/-- The first i elements of l, then nothing yet. -/
def copyTo {α : Type} (z : α) (l : List α) (i : Nat) : List α := l.take i ++ List.replicate (l.length - i) z
theorem copyTo_length {α : Type} {z : α} {l : List α} {i : Nat} (h : i ≤ l.length) : (copyTo z l i).length = l.length := by simp [copyTo]; omega
theorem copyTo_zero {α : Type} (z : α) (l : List α) : copyTo z l 0 = List.replicate l.length z := by simp [copyTo]
theorem copyTo_all {α : Type} {z : α} {l : List α} {i : Nat} (h : l.length ≤ i) : copyTo z l i = l := by
  rw [copyTo, List.take_of_length_le h, show l.length - i = 0 by omega]; simp
theorem copyTo_at {α : Type} {z : α} {l : List α} {i : Nat} (h : i < l.length) : (copyTo z l i)[i]? = some z := by
  have hm : (l.take i).length = i := by simp; omega
  rw [copyTo, List.getElem?_append_right (by omega), hm, Nat.sub_self, List.getElem?_replicate, if_pos (by omega)]
theorem copyTo_set {α : Type} {z : α} {l : List α} {i : Nat} (h : i < l.length) : (copyTo z l i).set i l[i] = copyTo z l (i + 1) := by
  have hm : (l.take i).length = i := by simp; omega
  rw [copyTo, List.set_append_right _ _ (by omega), hm, Nat.sub_self, copyTo, List.take_succ_eq_append_getElem h, List.append_assoc]
  have : l.length - i = (l.length - (i + 1)) + 1 := by omega
  rw [this, List.replicate_succ]
  rfl

theorem Rows'.at {α : Type} {E : Enc α} {w : World} {a : Option Addr} {cap : Nat} {l : List α} (h : Rows' E w (.slice a l.length cap) l) (i : Nat) (hi : i < l.length) :
    ∃ g off : Nat, a = some ⟨g, off, none⟩ ∧ ∀ w', Below w.heap.size w w' → ∀ k u, (E.f l[i])[k]? = some u → w'.cell? ⟨g, off + i * E.sz + k, none⟩ = some u := by
  rcases h.ways with ⟨h0, _⟩ | ⟨_, g, off, c, hv, hc, hg, hcl⟩
  · rw [h0] at hi; simp at hi
  · simp only [Value.slice.injEq] at hv
    exact ⟨g, off, hv.1, fun w' hb k u hu => (hb.cell (p := ⟨g, off + i * E.sz + k, none⟩) hg).trans (hcl i _ (List.getElem?_eq_getElem hi) k u hu)⟩

end Go.Proofs.YtieenkloiicnkaaGreatDoor

/- Lists that come in: how great they are (szStringS, szWriteS), and copies of them in memory of the call's own (toStringS, toWriteS, toIntS). -/
namespace Go.Proofs.YtieenkloiicnkaaGreatDoor
open Go.RowKit

/-- What a size function leaves over: less than nothing, or something, and then each part is small. -/
def SzR {α : Type} (size : α → Nat) (left : Int) (l : List α) (w : World) (e : Ending) (w' : World) : Prop :=
  ∃ r : Int, e = .returned (.int .i64 r) ∧ Below w.heap.size w w' ∧ r ≤ left ∧ -1 ≤ r ∧ (0 ≤ r → (l.length : Int) ≤ left ∧ ∀ x ∈ l, (size x : Int) ≤ left)

set_option maxRecDepth 100000 in
set_option maxHeartbeats 1000000 in
theorem szStringS_any (l : List ByteArray) (v : Value) (left : Int) (w : World) (hb : Rows' strE w v l) (h0 : 0 ≤ left) (h1 : left ≤ 1048576) (hl : l.length ≤ 9223372036854775807) (hs : ∀ s ∈ l, s.size ≤ 9223372036854775807) :
    Calls Tryz.prog 27 #[v, .int .i64 left] w fun e w' => SzR ByteArray.size left l w e w' := by
  rcases hb.ways with ⟨rfl, a, c, rfl⟩ | ⟨hne, g, off, cap, rfl, hca, hg, hcl⟩
  · clear hb
    go_enter Tryz.func27, Tryz.ntmps27
    go_wp2
    go_loop [1, 5] (fun kv iv => kv = .int .i64 left ∧ iv = .int .i64 0) (fun _ _ => 0)
    case atStart => exact ⟨rfl, rfl⟩
    case round =>
      obtain ⟨rfl, rfl⟩ := hrel
      go_wp2
      go_ret
      exact ⟨left, rfl, Below.refl _ _, by omega, by omega, fun _ => ⟨by simpa using h0, by simp⟩⟩
  · have HC := Lib.hid hcl
    have HS := Lib.hid hs
    clear hcl hb hne hs
    by_cases hbig : left < (l.length : Int)
    · have hn : left - (l.length : Int) < 0 := by omega
      go_enter Tryz.func27, Tryz.ntmps27
      go_wp2
      go_ret
      exact ⟨-1, rfl, Below.refl _ _, by omega, by omega, fun h => by omega⟩
    · have hn : ¬ left - (l.length : Int) < 0 := by omega
      go_enter Tryz.func27, Tryz.ntmps27
      go_wp2
      go_loopw [1, 5] (fun kv iv wr => ∃ (i : Nat) (r : Int), i ≤ l.length ∧ iv = .int .i64 (i : Int) ∧ kv = .int .i64 r ∧ 0 ≤ r ∧ r ≤ left ∧ (∀ x ∈ l.take i, (x.size : Int) ≤ left) ∧ wr = w) (fun _ iv _ => l.length - (intOf iv).toNat)
      case atStart => exact ⟨0, _, by omega, rfl, rfl, by omega, by omega, by simp, rfl⟩
      case round =>
        obtain ⟨i, r, hi, rfl, rfl, hr0, hr1, hall, rfl⟩ := hrel
        by_cases hlt : i < l.length
        · have hat := List.getElem?_eq_getElem hlt
          have hsz := HS.out _ (List.getElem_mem hlt)
          have c0 : wr.cell? ⟨g, off + i, none⟩ = some (.string l[i]) := by
            have := HC.out i _ hat 0 _ rfl
            rw [show strE.sz = 1 from rfl, Nat.mul_one, Nat.add_zero] at this
            exact this
          have htk : l.take (i + 1) = l.take i ++ [l[i]] := List.take_succ_eq_append_getElem hlt
          have HT := Lib.hid htk
          have HA := Lib.hid hall
          clear hat htk hall
          generalize l[i] = t at *
          by_cases hneg : r - (t.size : Int) < 0
          · go_wp2
            go_ret
            exact ⟨-1, rfl, Below.refl _ _, by omega, by omega, fun h => by omega⟩
          · go_wp2
            go_roundw
            case rel => exact ⟨i + 1, r - (t.size : Int), by omega, by go_num, by go_num, by omega, by omega, by
              rw [HT.out]
              intro x hx
              rcases List.mem_append.1 hx with h | h
              · exact HA.out x h
              · simp at h; subst h; omega, trivial⟩
            case measure => simp [intOf]; omega
        · go_wp2
          go_ret
          have : l.take i = l := List.take_of_length_le (by omega)
          rw [this] at hall
          exact ⟨r, rfl, Below.refl _ _, hr1, by omega, fun _ => ⟨by omega, hall⟩⟩

theorem szWrite_any (n : Int) (t : ByteArray) (left : Int) (w : World) (h0 : 0 ≤ left) (h1 : left ≤ 1048576) (hs : t.size ≤ 9223372036854775807) :
    Calls Tryz.prog 68 #[.agg #[.int .i64 n, .string t], .int .i64 left] w fun e w' => e = .returned (.int .i64 (if left - (t.size : Int) < 0 then -1 else left - (t.size : Int))) ∧ Below w.heap.size w w' := by
  by_cases hn : left - (t.size : Int) < 0
  · rw [if_pos hn]
    go_enter Tryz.func68, Tryz.ntmps68
    go_wp2
    go_ret
    exact ⟨rfl, (Below.refl _ _).alloc (Nat.le_refl _) _⟩
  · rw [if_neg hn]
    go_enter Tryz.func68, Tryz.ntmps68
    go_wp2
    go_ret
    exact ⟨rfl, (Below.refl _ _).alloc (Nat.le_refl _) _⟩

set_option maxRecDepth 100000 in
set_option maxHeartbeats 1000000 in
theorem szWriteS_any (l : List Wr) (v : Value) (left : Int) (w : World) (hb : Rows' lwrE w v l) (h0 : 0 ≤ left) (h1 : left ≤ 1048576) (hl : l.length ≤ 9223372036854775807) (hs : ∀ x ∈ l, x.text.size ≤ 9223372036854775807) :
    Calls Tryz.prog 28 #[v, .int .i64 left] w fun e w' => SzR (fun x : Wr => x.text.size) left l w e w' := by
  rcases hb.ways with ⟨rfl, a, c, rfl⟩ | ⟨hne, g, off, cap, rfl, hca, hg, hcl⟩
  · clear hb
    go_enter Tryz.func28, Tryz.ntmps28
    go_wp2
    go_loop [1, 5] (fun kv iv => kv = .int .i64 left ∧ iv = .int .i64 0) (fun _ _ => 0)
    case atStart => exact ⟨rfl, rfl⟩
    case round =>
      obtain ⟨rfl, rfl⟩ := hrel
      go_wp2
      go_ret
      exact ⟨left, rfl, Below.refl _ _, by omega, by omega, fun _ => ⟨by simpa using h0, by simp⟩⟩
  · have HC := Lib.hid hcl
    have HS := Lib.hid hs
    clear hcl hb hne hs
    by_cases hbig : left < (l.length : Int)
    · have hn : left - (l.length : Int) < 0 := by omega
      go_enter Tryz.func28, Tryz.ntmps28
      go_wp2
      go_ret
      exact ⟨-1, rfl, Below.refl _ _, by omega, by omega, fun h => by omega⟩
    · have hn : ¬ left - (l.length : Int) < 0 := by omega
      go_enter Tryz.func28, Tryz.ntmps28
      go_wp2
      go_loopw [1, 5] (fun kv iv wr => ∃ (i : Nat) (r : Int), i ≤ l.length ∧ iv = .int .i64 (i : Int) ∧ kv = .int .i64 r ∧ 0 ≤ r ∧ r ≤ left ∧ (∀ x ∈ l.take i, (x.text.size : Int) ≤ left) ∧ Below w.heap.size w wr) (fun _ iv _ => l.length - (intOf iv).toNat)
      case atStart => exact ⟨0, _, by omega, rfl, rfl, by omega, by omega, by simp, Below.refl _ _⟩
      case round =>
        obtain ⟨i, r, hi, rfl, rfl, hr0, hr1, hall, hbel⟩ := hrel
        by_cases hlt : i < l.length
        · have hat := List.getElem?_eq_getElem hlt
          have hsz := HS.out _ (List.getElem_mem hlt)
          obtain ⟨c0, c1⟩ := wr_cells (E := lwrE) rfl rfl HC.out hg hbel i _ hat
          have htk : l.take (i + 1) = l.take i ++ [l[i]] := List.take_succ_eq_append_getElem hlt
          have HT := Lib.hid htk
          have HA := Lib.hid hall
          clear hat htk hall
          generalize l[i] = x at *
          obtain ⟨n, t⟩ := x
          simp only at c0 c1 hsz
          by_cases hneg : r - (t.size : Int) < 0
          · go_wp2_with (go_at_call 68; refine (szWrite_any n t r _ hr0 (by omega) hsz).mono ?_; rintro e w1 ⟨rfl, hb1⟩; rw [if_pos hneg])
            go_ret
            exact ⟨-1, rfl, hbel.trans (hb1.mono hbel.size), by omega, by omega, fun h => by omega⟩
          · go_wp2_with (go_at_call 68; refine (szWrite_any n t r _ hr0 (by omega) hsz).mono ?_; rintro e w1 ⟨rfl, hb1⟩; rw [if_neg hneg])
            go_roundw
            case rel => exact ⟨i + 1, r - (t.size : Int), by omega, by go_num, by go_num, by omega, by omega, by
              rw [HT.out]
              intro x hx
              rcases List.mem_append.1 hx with h | h
              · exact HA.out x h
              · simp at h; subst h; simp only; omega, hbel.trans (hb1.mono hbel.size)⟩
            case measure => simp [intOf]; omega
        · go_wp2
          go_ret
          have : l.take i = l := List.take_of_length_le (by omega)
          rw [this] at hall
          exact ⟨r, rfl, hbel, hr1, by omega, fun _ => ⟨by omega, hall⟩⟩

theorem toWrite_any (n : Int) (t : ByteArray) (w : World) :
    Calls Tryz.prog 72 #[.agg #[.int .i64 n, .string t]] w fun e w' => e = .returned (.agg #[.int .i64 n, .string t]) ∧ Below w.heap.size w w' := by
  go_enter Tryz.func72, Tryz.ntmps72
  go_wp2
  refine bodyPost_ret (v := .agg #[.int .i64 n, .string t]) (by simp [results, Tryz.results72, go_sem]) rfl ⟨rfl, ?_⟩
  exact (((Below.refl _ _).alloc (Nat.le_refl _) _).alloc (by simp) _).alloc (by simp; omega) _

set_option maxRecDepth 100000 in
set_option maxHeartbeats 1000000 in
theorem toStringS_any (l : List ByteArray) (v : Value) (w : World) (hb : Rows' strE w v l) (hl : l.length ≤ 1048576) :
    Calls Tryz.prog 30 #[v] w fun e w' => ∃ v', e = .returned v' ∧ RBuf strE w.heap.size w w' v' l := by
  obtain ⟨a, cap, rfl⟩ : ∃ (a : Option Addr) (cap : Nat), v = .slice a l.length cap := by
    rcases hb with ⟨rfl, a, c, rfl⟩ | ⟨g, off, c, rfl, _⟩
    · exact ⟨a, c, rfl⟩
    · exact ⟨_, c, rfl⟩
  have HB := Lib.hid hb
  clear hb
  go_enter Tryz.func30, Tryz.ntmps30
  go_wp2_with (at_make; refine wpList_make_rows rfl _ _ strE rfl .i64 .i64 _ _ l.length rfl rfl rfl rfl (by show 17 * l.length ≤ _; omega) ?_; intro w1 hr1 hs1)
  go_loopw [4] (fun iv wr => ∃ i : Nat, i ≤ l.length ∧ iv = .int .i64 (i : Int) ∧ RBuf strE w.heap.size w wr (.slice (some ⟨w.heap.size, 0, none⟩) l.length l.length) (copyTo strE.z0 l i)) (fun iv _ => l.length - (intOf iv).toNat)
  case atStart => exact ⟨0, by omega, rfl, by rw [copyTo_zero]; exact hr1⟩
  case round =>
    obtain ⟨i, hi, rfl, hbr⟩ := hrel
    by_cases hlt : i < l.length
    · obtain ⟨g, off, rfl, hcl⟩ := HB.out.at i hlt
      have hcs := hcl wr hbr.bel 0 _ rfl
      rw [show strE.sz = 1 from rfl, Nat.mul_one, Nat.add_zero] at hcs
      have hi0 : (0 : Int) ≤ (i : Int) := by omega
      have hi1 : (i : Int) < (l.length : Int) := by omega
      have hml := copyTo_length (z := strE.z0) hi
      have hms := copyTo_set (z := strE.z0) hlt
      have hat := copyTo_at (z := strE.z0) hlt
      rw [← hml] at hbr
      have cd : wr.cell? ⟨w.heap.size, i, none⟩ = some (.string strE.z0) := by
        have := hbr.cell rfl i _ hat 0 _ rfl
        rw [show strE.sz = 1 from rfl, Nat.mul_one, Nat.add_zero] at this
        exact this
      have fd := hbr.loose i
      have hst := hbr.stored i _ l[i] hat 0 (by decide) (.string l[i]) rfl
      rw [show strE.sz = 1 from rfl, Nat.mul_one, Nat.add_zero, hms, hml] at hst
      clear hcl hbr hat hml hms
      generalize l[i] = t at *
      go_wp2
      go_roundw
      case rel => exact ⟨i + 1, by omega, by go_num, hst⟩
      case measure => simp [intOf]; omega
    · go_wp2
      go_ret
      rw [copyTo_all (by omega)] at hbr
      exact ⟨_, rfl, hbr⟩

/-- A whole write is stored. -/
theorem RBuf.put2 {B : Nat} {w0 w : World} {g cap : Nat} {l : List Wr} (h : RBuf wrE B w0 w (.slice (some ⟨g, 0, none⟩) l.length cap) l) (i : Nat) (x : Wr) (hi : l[i]? = some x) (n : Int) (t : ByteArray) :
    RBuf wrE B w0 ((w.setCell ⟨g, i * 2, none⟩ (.int .i64 n)).setCell ⟨g, i * 2 + 1, none⟩ (.string t)) (.slice (some ⟨g, 0, none⟩) l.length cap) (l.set i ⟨n, t⟩) := by
  have hlt : i < l.length := (List.getElem?_eq_some_iff.1 hi).1
  have st0 : RBuf wrE B w0 (w.setCell ⟨g, i * 2, none⟩ (.int .i64 n)) (.slice (some ⟨g, 0, none⟩) l.length cap) (l.set i ⟨n, x.text⟩) :=
    h.stored i _ ⟨n, x.text⟩ hi 0 (by decide) (.int .i64 n) rfl
  have hat1 : (l.set i ⟨n, x.text⟩)[i]? = some ⟨n, x.text⟩ := List.getElem?_set_self hlt
  have hl1 : (l.set i (⟨n, x.text⟩ : Wr)).length = l.length := by simp
  rw [← hl1] at st0
  have st2 := st0.stored i _ ⟨n, t⟩ hat1 1 (by decide) (.string t) rfl
  rw [List.set_set, hl1] at st2
  exact st2

set_option maxRecDepth 100000 in
set_option maxHeartbeats 1000000 in
theorem toWriteS_any (l : List Wr) (v : Value) (w : World) (hb : Rows' lwrE w v l) (hl : l.length ≤ 1048576) :
    Calls Tryz.prog 31 #[v] w fun e w' => ∃ v', e = .returned v' ∧ RBuf wrE w.heap.size w w' v' l := by
  obtain ⟨a, cap, rfl⟩ : ∃ (a : Option Addr) (cap : Nat), v = .slice a l.length cap := by
    rcases hb with ⟨rfl, a, c, rfl⟩ | ⟨g, off, c, rfl, _⟩
    · exact ⟨a, c, rfl⟩
    · exact ⟨_, c, rfl⟩
  have HB := Lib.hid hb
  clear hb
  go_enter Tryz.func31, Tryz.ntmps31
  go_wp2_with (at_make; refine wpList_make_rows rfl _ _ wrE rfl .i64 .i64 _ _ l.length rfl rfl rfl rfl (by show 25 * l.length ≤ _; omega) ?_; intro w1 hr1 hs1)
  go_loopw [4] (fun iv wr => ∃ i : Nat, i ≤ l.length ∧ iv = .int .i64 (i : Int) ∧ RBuf wrE w.heap.size w wr (.slice (some ⟨w.heap.size, 0, none⟩) l.length l.length) (copyTo wrE.z0 l i)) (fun iv _ => l.length - (intOf iv).toNat)
  case atStart => exact ⟨0, by omega, rfl, by rw [copyTo_zero]; exact hr1⟩
  case round =>
    obtain ⟨i, hi, rfl, hbr⟩ := hrel
    by_cases hlt : i < l.length
    · obtain ⟨g, off, rfl, hcl⟩ := HB.out.at i hlt
      have c0 : wr.cell? ⟨g, off + i * 2, none⟩ = some (.int .i64 l[i].at_) := hcl wr hbr.bel 0 _ rfl
      have c1 : wr.cell? ⟨g, off + i * 2 + 1, none⟩ = some (.string l[i].text) := hcl wr hbr.bel 1 _ rfl
      have hi0 : (0 : Int) ≤ (i : Int) := by omega
      have hi1 : (i : Int) < (l.length : Int) := by omega
      have hml := copyTo_length (z := wrE.z0) hi
      have hms := copyTo_set (z := wrE.z0) hlt
      have hat := copyTo_at (z := wrE.z0) hlt
      rw [← hml] at hbr
      have HF : Hid (∀ w1, Below wr.heap.size wr w1 → w1.cell? ⟨w.heap.size, i * 2, none⟩ = some (.int .i64 0) ∧ w1.cell? ⟨w.heap.size, i * 2 + 1, none⟩ = some (.string ⟨#[]⟩) ∧ w1.frozen? ⟨w.heap.size, i * 2, none⟩ = false ∧ w1.frozen? ⟨w.heap.size, i * 2 + 1, none⟩ = false) := by
        intro w1 hb1
        have h1 := hbr.later hb1
        exact ⟨h1.cell rfl i _ hat 0 _ rfl, h1.cell rfl i _ hat 1 _ rfl, h1.loose _, h1.loose _⟩
      generalize hx : l[i] = x at *
      obtain ⟨n, t⟩ := x
      simp only at c0 c1
      clear hcl
      go_wp2_with (go_at_call 72; refine (toWrite_any n t _).mono ?_; rintro e w1 ⟨rfl, hb1⟩; obtain ⟨d0, d1, f0, f1⟩ := HF.out w1 hb1)
      have hp := (hbr.later hb1).put2 i _ hat n t
      rw [hms, hml] at hp
      go_roundw
      case rel => exact ⟨i + 1, by omega, by go_num, hp⟩
      case measure => simp [intOf]; omega
    · go_wp2
      go_ret
      rw [copyTo_all (by omega)] at hbr
      exact ⟨_, rfl, hbr⟩

end Go.Proofs.YtieenkloiicnkaaGreatDoor

/- Disks: what they are in memory, and the helpers of the exact laws over them. -/
namespace Go.Proofs.YtieenkloiicnkaaGreatDoor
open Go.RowKit

/-- A disk: its sectors, and what waits. -/
structure Dk where
  sec : List ByteArray
  cache : List Wr

/-- The value v is the disk d, in memory of its own: two rows in the blocks B .. T-1, and not the same one. -/
def DOwn (B T : Nat) (w : World) (v : Value) (d : Dk) : Prop :=
  ∃ va vb, v = .agg #[va, vb] ∧ LOwn strE B T w va d.sec ∧ LOwn wrE B T w vb d.cache ∧ (va.ownBlock = none ∨ va.ownBlock ≠ vb.ownBlock)

theorem DOwn.kept {B T B' T' : Nat} {w w' : World} {v : Value} {d : Dk} (h : DOwn B T w v d) (hk : Kept B' T' w w') (hd : T ≤ B' ∨ T' ≤ B) : DOwn B T w' v d := by
  obtain ⟨va, vb, hv, h1, h2, h3⟩ := h
  exact ⟨va, vb, hv, h1.kept hk hd, h2.kept hk hd, h3⟩

theorem DOwn.later {B T : Nat} {w w' : World} {v : Value} {d : Dk} (h : DOwn B T w v d) (hb : Below w.heap.size w w') : DOwn B T w' v d :=
  h.kept (Kept.of_below hb T T) (.inl (Nat.le_refl _))

theorem DOwn.form {B T : Nat} {w : World} {v : Value} {d : Dk} (h : DOwn B T w v d) : ∃ (a b : Option Addr) (c e : Nat), v = .agg #[.slice a d.sec.length c, .slice b d.cache.length e] := by
  obtain ⟨va, vb, rfl, h1, h2, _⟩ := h
  obtain ⟨a, c, rfl⟩ := h1.1.form
  obtain ⟨b, e, rfl⟩ := h2.1.form
  exact ⟨a, b, c, e, rfl⟩

/-- A disk whose rows can be read. -/
def DRd (w : World) (v : Value) (d : Dk) : Prop := ∃ va vb, v = .agg #[va, vb] ∧ Strs w va d.sec ∧ Rows' wrE w vb d.cache

theorem DOwn.rd {B T : Nat} {w : World} {v : Value} {d : Dk} (h : DOwn B T w v d) : DRd w v d := by
  obtain ⟨va, vb, hv, h1, h2, _⟩ := h
  exact ⟨va, vb, hv, h1.1.toS.strs, h2.rows⟩

theorem DRd.later {w w' : World} {v : Value} {d : Dk} (h : DRd w v d) (hb : Below w.heap.size w w') : DRd w' v d := by
  obtain ⟨va, vb, hv, h1, h2⟩ := h
  exact ⟨va, vb, hv, h1.later hb, h2.later hb⟩

def Dk.small (d : Dk) : Prop := d.sec.length ≤ 1073741824 ∧ d.cache.length ≤ 1073741824

/-- Two boxes laid one behind the other can be read, whatever is laid behind them. -/
theorem box_cells (w : World) (c : Array Value) (t : TypeId) {w' : World} (hb : Below (w.alloc (.cells c t)).heap.size (w.alloc (.cells c t)) w') (j : Nat) (u : Value) (hu : c[j]? = some u) : w'.cell? ⟨w.heap.size, j, none⟩ = some u := by
  have h1 : (w.alloc (.cells c t)).cell? ⟨w.heap.size, j, none⟩ = some u := by
    rw [cell_of_row _ _ _ c t (0, 0) (heap_alloc_new w _), hu]
  exact (hb.cell (p := ⟨w.heap.size, j, none⟩) (by simp)).trans h1

theorem eqDisk_same (d : Dk) (v1 v2 : Value) (w : World) (h1 : DRd w v1 d) (h2 : DRd w v2 d) (hs : d.small) :
    Calls Tryz.prog 11 #[v1, v2] w fun e w' => e = .returned (.bool true) ∧ Below w.heap.size w w' := by
  obtain ⟨va, vb, rfl, ha, hb⟩ := h1
  obtain ⟨vc, vd, rfl, hc, hd⟩ := h2
  obtain ⟨s1, s2⟩ := hs
  have b0 : Below w.heap.size w ((w.alloc (.cells #[va, vb] 33)).alloc (.cells #[vc, vd] 33)) := ((Below.refl _ _).alloc (Nat.le_refl _) _).alloc (by simp) _
  have ha' := ha.later b0
  have hc' := hc.later b0
  have HB : Hid (∀ w', Below ((w.alloc (.cells #[va, vb] 33)).alloc (.cells #[vc, vd] 33)).heap.size ((w.alloc (.cells #[va, vb] 33)).alloc (.cells #[vc, vd] 33)) w' →
      Below w.heap.size w w' ∧ Rows' wrE w' vb d.cache ∧ Rows' wrE w' vd d.cache ∧ w'.cell? ⟨w.heap.size, 1, none⟩ = some vb ∧ w'.cell? ⟨w.heap.size + 1, 1, none⟩ = some vd) := by
    intro w' h
    have h' : Below w.heap.size w w' := b0.trans (h.mono b0.size)
    refine ⟨h', hb.later h', hd.later h', ?_, ?_⟩
    · exact box_cells w #[va, vb] 33 (((Below.refl _ _).alloc (Nat.le_refl _) _).trans (h.mono (by simp))) 1 vb rfl
    · have := box_cells (w.alloc (.cells #[va, vb] 33)) #[vc, vd] 33 h 1 vd rfl
      simpa using this
  clear hb hd ha hc
  go_enter Tryz.func11, Tryz.ntmps11
  go_wp2_with fail
  refine (eqStringS_same d.sec va vc _ ha' hc' (by omega)).mono ?_
  rintro e w1 ⟨rfl, hb1⟩
  obtain ⟨hb1', r1, r2, c1, c2⟩ := HB.out w1 hb1
  go_wp2_with fail
  refine (eqWriteS_same d.cache vb vd _ r1 r2 (by omega)).mono ?_
  rintro e w2 ⟨rfl, hb2⟩
  go_wp2
  go_ret
  exact ⟨rfl, hb1'.trans (hb2.mono hb1'.size)⟩

/-- A disk all marked. -/
def marksD (k : Nat) (d : Dk) : Dk := ⟨marksOf k d.sec.length, marksW (k + d.sec.length) d.cache.length⟩
def Dk.count (d : Dk) : Nat := d.sec.length + 2 * d.cache.length
theorem marksD_count (k : Nat) (d : Dk) : (marksD k d).count = d.count := by simp [marksD, Dk.count, marksOf_length, marksW_length]

set_option maxHeartbeats 400000 in
theorem markDisk_any (d : Dk) (v : Value) (k B T : Nat) (w : World) (h : DOwn B T w v d) (hk : 1 ≤ k) (hk2 : k + d.count ≤ 1099511627776) :
    Calls Tryz.prog 12 #[v, .int .i64 (k : Int)] w fun e w' => e = .returned (.int .i64 ((k + d.count : Nat) : Int)) ∧ DOwn B T w' v (marksD k d) ∧ Kept B T w w' := by
  obtain ⟨va, vb, rfl, h1, h2, h3⟩ := h
  unfold Dk.count at hk2
  have b0 : Below w.heap.size w (w.alloc (.cells #[va, vb] 33)) := (Below.refl _ _).alloc (Nat.le_refl _) _
  have k0 := Kept.of_below b0 B T
  have h1' := h1.later b0
  have hin : ∀ j, va.ownBlock = some j → B ≤ j ∧ j < T := fun j hj => ⟨(h1.1.own.lt j hj).1, h1.2.2 j hj⟩
  have hin2 : ∀ j, vb.ownBlock = some j → B ≤ j ∧ j < T := fun j hj => ⟨(h2.1.own.lt j hj).1, h2.2.2 j hj⟩
  have hT : T ≤ w.heap.size := h1.2.1
  have HB : Hid (∀ w', (w.alloc (.cells #[va, vb] 33)).grownBy w' va.ownBlock → SBuf B (w.alloc (.cells #[va, vb] 33)) w' va (marksOf k d.sec.length) →
      w'.cell? ⟨w.heap.size, 1, none⟩ = some vb ∧ LOwn wrE B T w' vb d.cache ∧ Kept B T w w') := by
    intro w' hg hb
    refine ⟨?_, (h2.later b0).grown hg ?_, k0.trans (Kept.of_grown hg hin)⟩
    · have : (w.alloc (.cells #[va, vb] 33)).cell? ⟨w.heap.size, 1, none⟩ = some vb := by
        rw [cell_of_row _ _ _ #[va, vb] _ (0, 0) (heap_alloc_new w _)]; rfl
      exact hg.cell this (fun e => by have := hin w.heap.size e.symm; omega)
    · rcases h3 with h3 | h3
      · cases hvb : vb.ownBlock with
        | none => exact .inl rfl
        | some j => exact .inr (by rw [h3]; simp)
      · exact .inr (Ne.symm h3)
  clear h2 k0
  go_enter Tryz.func12, Tryz.ntmps12
  go_wp2_with fail
  refine (markStringS_row d.sec va k B _ _ h1'.1.toS hk (by omega)).mono ?_
  rintro e w1 ⟨rfl, hs1, hg1⟩
  obtain ⟨c1, r1, k1⟩ := HB.out w1 hg1 hs1
  go_wp2_with fail
  refine (markWriteS_any d.cache vb (k + d.sec.length) B _ _ r1.1 (by omega) (by omega)).mono ?_
  rintro e w2 ⟨rfl, hs2, hg2⟩
  go_wp2
  go_ret
  have k2 := Kept.of_grown hg2 hin2
  refine ⟨congrArg (fun z : Int => Ending.returned (.int .i64 z)) (show (k : Int) + (d.sec.length : Int) + 2 * (d.cache.length : Int) = ((k + d.count : Nat) : Int) by unfold Dk.count; omega), ⟨va, vb, rfl, ?_, ?_, h3⟩, k1.trans k2⟩
  · have l1 : LOwn strE B T w1 va (marksOf k d.sec.length) := ⟨hs1.toR.here, Nat.le_trans hT k1.size, fun j hj => (hin j hj).2⟩
    exact l1.grown hg2 h3
  · exact ⟨hs2.here, Nat.le_trans hT (k1.trans k2).size, fun j hj => (hin2 j hj).2⟩

theorem heldDisk_any (d : Dk) (v : Value) (k : Nat) (w : World) (h : DRd w v (marksD k d)) (hk : 1 ≤ k) (hk2 : k + d.count ≤ 1099511627776) :
    Calls Tryz.prog 21 #[v, .int .i64 (k : Int)] w fun e w' => e = .returned (.int .i64 ((k + d.count : Nat) : Int)) ∧ Below w.heap.size w w' := by
  obtain ⟨va, vb, rfl, ha, hb⟩ := h
  unfold Dk.count at hk2
  have b0 : Below w.heap.size w (w.alloc (.cells #[va, vb] 33)) := (Below.refl _ _).alloc (Nat.le_refl _) _
  have ha' := ha.later b0
  have HB : Hid (∀ w', Below (w.alloc (.cells #[va, vb] 33)).heap.size (w.alloc (.cells #[va, vb] 33)) w' →
      Below w.heap.size w w' ∧ Rows' wrE w' vb (marksW (k + d.sec.length) d.cache.length) ∧ w'.cell? ⟨w.heap.size, 1, none⟩ = some vb) := by
    intro w' h
    have h' : Below w.heap.size w w' := b0.trans (h.mono b0.size)
    exact ⟨h', hb.later h', box_cells w #[va, vb] 33 h 1 vb rfl⟩
  clear hb ha
  go_enter Tryz.func21, Tryz.ntmps21
  go_wp2_with fail
  refine (heldStringS_any d.sec.length va k _ ha' hk (by omega)).mono ?_
  rintro e w1 ⟨rfl, hb1⟩
  obtain ⟨hb1', r1, c1⟩ := HB.out w1 hb1
  go_wp2_with fail
  refine (heldWriteS_any d.cache.length vb (k + d.sec.length) _ r1 (by omega) (by omega)).mono ?_
  rintro e w2 ⟨rfl, hb2⟩
  go_wp2
  go_ret
  exact ⟨congrArg (fun z : Int => Ending.returned (.int .i64 z)) (show (k : Int) + (d.sec.length : Int) + 2 * (d.cache.length : Int) = ((k + d.count : Nat) : Int) by unfold Dk.count; omega), hb1'.trans (hb2.mono hb1'.size)⟩

/-- A disk that comes in: its rows can be read. -/
def DIn (w : World) (v : Value) (d : Dk) : Prop := ∃ va vb, v = .agg #[va, vb] ∧ Rows' strE w va d.sec ∧ Rows' lwrE w vb d.cache ∧ d.sec.length ≤ 9223372036854775807 ∧ d.cache.length ≤ 9223372036854775807 ∧ (∀ s ∈ d.sec, s.size ≤ 9223372036854775807) ∧ ∀ x ∈ d.cache, x.text.size ≤ 9223372036854775807

theorem DIn.later {w w' : World} {v : Value} {d : Dk} (h : DIn w v d) (hb : Below w.heap.size w w') : DIn w' v d := by
  obtain ⟨va, vb, hv, h1, h2, h3⟩ := h
  exact ⟨va, vb, hv, h1.later hb, h2.later hb, h3⟩

/-- What szDisk leaves over. -/
def Dk.lean (d : Dk) (left : Int) : Prop := (d.sec.length : Int) ≤ left ∧ (d.cache.length : Int) ≤ left ∧ (∀ s ∈ d.sec, (s.size : Int) ≤ left) ∧ ∀ x ∈ d.cache, (x.text.size : Int) ≤ left

def SzD (left : Int) (d : Dk) (w : World) (e : Ending) (w' : World) : Prop :=
  ∃ r : Int, e = .returned (.int .i64 r) ∧ Below w.heap.size w w' ∧ r ≤ left ∧ -1 ≤ r ∧ (0 ≤ r → d.lean left)

set_option maxHeartbeats 400000 in
theorem szDisk_any (d : Dk) (v : Value) (left : Int) (w : World) (h : DIn w v d) (h0 : 0 ≤ left) (h1 : left ≤ 1048576) :
    Calls Tryz.prog 6 #[v, .int .i64 left] w fun e w' => SzD left d w e w' := by
  obtain ⟨va, vb, rfl, ha, hb, l1, l2, l3, l4⟩ := h
  have b0 : Below w.heap.size w (w.alloc (.cells #[va, vb] 25)) := (Below.refl _ _).alloc (Nat.le_refl _) _
  have ha' := ha.later b0
  have HB : Hid (∀ w', Below (w.alloc (.cells #[va, vb] 25)).heap.size (w.alloc (.cells #[va, vb] 25)) w' →
      Below w.heap.size w w' ∧ Rows' lwrE w' vb d.cache ∧ w'.cell? ⟨w.heap.size, 1, none⟩ = some vb) := by
    intro w' h
    have h' : Below w.heap.size w w' := b0.trans (h.mono b0.size)
    exact ⟨h', hb.later h', box_cells w #[va, vb] 25 h 1 vb rfl⟩
  clear hb ha
  go_enter Tryz.func6, Tryz.ntmps6
  go_wp2_with fail
  refine (szStringS_any d.sec va left _ ha' h0 h1 l1 l3).mono ?_
  rintro e w1 ⟨r, rfl, hb1, hr1, hr2, hr3⟩
  obtain ⟨hb1', r1, c1⟩ := HB.out w1 hb1
  by_cases hneg : r < 0
  · have HR := Lib.hid hr3
    clear hr3 l3 l4
    go_wp2
    go_ret
    exact ⟨-1, rfl, hb1', by omega, by omega, fun h => by omega⟩
  · have HR := Lib.hid (hr3 (by omega))
    clear hr3
    go_wp2_with fail
    refine (szWriteS_any d.cache vb r _ r1 (by omega) (by omega) l2 l4).mono ?_
    rintro e w2 ⟨q, rfl, hb2, hq1, hq2, hq3⟩
    have b2 := hb1'.trans (hb2.mono hb1'.size)
    have HQ := Lib.hid hq3
    clear hq3 l3 l4
    by_cases hneg2 : q < 0
    · go_wp2
      go_ret
      exact ⟨-1, rfl, b2, by omega, by omega, fun h => by omega⟩
    · go_wp2
      go_ret
      obtain ⟨q1, q2⟩ := HQ.out (by omega)
      exact ⟨q, rfl, b2, by omega, by omega, fun _ => ⟨HR.out.1, by omega, HR.out.2, fun x hx => by have := q2 x hx; omega⟩⟩

set_option maxHeartbeats 400000 in
theorem toDisk_any (d : Dk) (v : Value) (w : World) (h : DIn w v d) (hs : d.sec.length ≤ 1048576) (hc : d.cache.length ≤ 1048576) :
    Calls Tryz.prog 8 #[v] w fun e w' => ∃ v', e = .returned v' ∧ DOwn w.heap.size w'.heap.size w' v' d ∧ Below w.heap.size w w' := by
  obtain ⟨va, vb, rfl, ha, hb, _, _, _, _⟩ := h
  obtain ⟨hx0, hx1, hx2, bel3, hsz⟩ : Box (((w.alloc (.cells #[va, vb] 25)).alloc (.cells #[.slice none 0 0, .slice none 0 0] 33)).alloc (.cells #[.slice none 0 0, .slice none 0 0] 33)) w.heap.size #[va, vb] 25 ∧
      Box (((w.alloc (.cells #[va, vb] 25)).alloc (.cells #[.slice none 0 0, .slice none 0 0] 33)).alloc (.cells #[.slice none 0 0, .slice none 0 0] 33)) (w.heap.size + 1) #[.slice none 0 0, .slice none 0 0] 33 ∧
      Box (((w.alloc (.cells #[va, vb] 25)).alloc (.cells #[.slice none 0 0, .slice none 0 0] 33)).alloc (.cells #[.slice none 0 0, .slice none 0 0] 33)) (w.heap.size + 1 + 1) #[.slice none 0 0, .slice none 0 0] 33 ∧
      Below w.heap.size w (((w.alloc (.cells #[va, vb] 25)).alloc (.cells #[.slice none 0 0, .slice none 0 0] 33)).alloc (.cells #[.slice none 0 0, .slice none 0 0] 33)) ∧
      (((w.alloc (.cells #[va, vb] 25)).alloc (.cells #[.slice none 0 0, .slice none 0 0] 33)).alloc (.cells #[.slice none 0 0, .slice none 0 0] 33)).heap.size = w.heap.size + 3 := by
    have e1 : (w.alloc (.cells #[va, vb] 25)).heap.size = w.heap.size + 1 := by simp
    have e2 : ((w.alloc (.cells #[va, vb] 25)).alloc (.cells #[.slice none 0 0, .slice none 0 0] 33)).heap.size = w.heap.size + 1 + 1 := by simp
    have q0 := Box.new w #[va, vb] 25
    have q1 := Box.new (w.alloc (.cells #[va, vb] 25)) #[.slice none 0 0, .slice none 0 0] 33
    have q2 := Box.new ((w.alloc (.cells #[va, vb] 25)).alloc (.cells #[.slice none 0 0, .slice none 0 0] 33)) #[.slice none 0 0, .slice none 0 0] 33
    rw [e1] at q1
    rw [e2] at q2
    refine ⟨(q0.later ((Below.refl _ _).alloc (Nat.le_refl _) _)).later ((Below.refl _ _).alloc (Nat.le_refl _) _), q1.later ((Below.refl _ _).alloc (Nat.le_refl _) _), q2, (((Below.refl _ _).alloc (Nat.le_refl _) _).alloc (by simp) _).alloc (by simp; omega) _, by simp⟩
  go_enter Tryz.func8, Tryz.ntmps8
  go_wp2_with fail
  generalize (((w.alloc (.cells #[va, vb] 25)).alloc (.cells #[.slice none 0 0, .slice none 0 0] 33)).alloc (.cells #[.slice none 0 0, .slice none 0 0] 33)) = w3 at hx0 hx1 hx2 bel3 hsz ⊢
  refine (toStringS_any d.sec va _ (ha.later bel3) hs).mono ?_
  rintro e w4 ⟨v1, rfl, r1⟩
  obtain ⟨a1, p1, rfl⟩ := r1.form
  have k4 := r1.bel
  have c0 := (hx0.later k4).cell 1 vb rfl
  have c2 := (hx2.later k4).cell 0 (.slice none 0 0) rfl
  have f2 := (hx2.later k4).loose 0
  have bel4 : Below w.heap.size w w4 := bel3.trans (k4.mono bel3.size)
  have x0 := (hx0.later k4).other (g := w.heap.size + 1 + 1) (by omega) 0 (.slice a1 d.sec.length p1)
  have x1 := (hx1.later k4).other (g := w.heap.size + 1 + 1) (by omega) 0 (.slice a1 d.sec.length p1)
  have x2 := (hx2.later k4).set 0 (.slice a1 d.sec.length p1)
  have l1 := r1.lown.store (w.heap.size + 1 + 1) 0 (.slice a1 d.sec.length p1) (by omega)
  have b5 : Below w.heap.size w (w4.setCell ⟨w.heap.size + 1 + 1, 0, none⟩ (.slice a1 d.sec.length p1)) := bel4.setCell (p := ⟨w.heap.size + 1 + 1, 0, none⟩) (by simp; omega) _
  have hb5 := hb.later b5
  have s5 : (w4.setCell ⟨w.heap.size + 1 + 1, 0, none⟩ (.slice a1 d.sec.length p1)).heap.size = w4.heap.size := by simp
  have L1 := Lib.hid l1
  clear ha hb hx0 hx1 hx2 r1 l1
  go_wp2_with fail
  clear c0 c2 f2
  generalize w4.setCell ⟨w.heap.size + 1 + 1, 0, none⟩ (.slice a1 d.sec.length p1) = w5 at x0 x1 x2 L1 b5 hb5 s5 ⊢
  refine (toWriteS_any d.cache vb _ hb5 hc).mono ?_
  rintro e w6 ⟨v2, rfl, r2⟩
  obtain ⟨a2, p2, rfl⟩ := r2.form
  have k6 := r2.bel
  have b6 : Below w.heap.size w w6 := b5.trans (k6.mono b5.size)
  have s6 : w5.heap.size ≤ w6.heap.size := k6.size
  have s4 : w3.heap.size ≤ w4.heap.size := k4.size
  have y1 := x1.later k6
  have y2 := x2.later k6
  have c10 := y1.cell 0 (.slice none 0 0) rfl
  have c11 := y1.cell 1 (.slice none 0 0) rfl
  have c20 := y2.cell 0 (.slice a1 d.sec.length p1) rfl
  have c21 := y2.cell 1 (.slice none 0 0) rfl
  have f10 := y1.loose 0
  have f11 := y1.loose 1
  have f21 := y2.loose 1
  have L6 := Lib.hid (L1.out.later k6)
  have R2 := Lib.hid r2.lown
  clear x0 x1 x2 y1 y2 r2 hb5 L1
  go_wp2
  have q1 := (L6.out.store (w.heap.size + 1 + 1) 1 (.slice a2 d.cache.length p2) (by omega)).store (w.heap.size + 1) 0 (.slice a1 d.sec.length p1) (by omega) |>.store (w.heap.size + 1) 1 (.slice a2 d.cache.length p2) (by omega)
  have q2 := (R2.out.store (w.heap.size + 1 + 1) 1 (.slice a2 d.cache.length p2) (by omega)).store (w.heap.size + 1) 0 (.slice a1 d.sec.length p1) (by omega) |>.store (w.heap.size + 1) 1 (.slice a2 d.cache.length p2) (by omega)
  have b7 := ((b6.setCell (p := ⟨w.heap.size + 1 + 1, 1, none⟩) (by simp; omega) (.slice a2 d.cache.length p2)).setCell (p := ⟨w.heap.size + 1, 0, none⟩) (by simp) (.slice a1 d.sec.length p1)).setCell (p := ⟨w.heap.size + 1, 1, none⟩) (by simp) (.slice a2 d.cache.length p2)
  refine bodyPost_ret (v := .agg #[.slice a1 d.sec.length p1, .slice a2 d.cache.length p2]) ?_ rfl ⟨_, rfl, ?_, b7⟩
  · simp [results, Tryz.results8, go_sem, c10, c11]
  · have e7 := b7.size
    refine ⟨_, _, rfl, (q1.deeper (by omega)).wider (by simp; omega) (Nat.le_refl _), (q2.deeper (by omega)).wider (by simp) (Nat.le_refl _), ?_⟩
    cases ha1 : (Value.slice a1 d.sec.length p1).ownBlock with
    | none => exact .inl rfl
    | some j =>
      refine .inr fun e => ?_
      have j1 := q1.2.2 j ha1
      have j2 := (q2.1.own.lt j e.symm).1
      omega

end Go.Proofs.YtieenkloiicnkaaGreatDoor
