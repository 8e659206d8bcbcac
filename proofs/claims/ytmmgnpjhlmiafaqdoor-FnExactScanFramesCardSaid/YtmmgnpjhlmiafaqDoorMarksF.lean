/- The helpers of the exact laws over lists of frames: two alike are alike; each is marked, and the marks are held. -/
import Derived.Test.YtmmgnpjhlmiafaqDoorMarksS
import Derived.Test.YtmmgnpjhlmiafaqDoorOpenFrame
import Derived.Test.YtmmgnpjhlmiafaqDoorEncF
import Derived.Test.YtmmgnpjhlmiafaqDoorPuts
import Derived.Lib.Hide
namespace Go.Proofs.YtmmgnpjhlmiafaqDoor
open Go.RowKit

/-- The three cells of a frame. -/
theorem fr_cells {w w' : World} {g off : Nat} {l : List Fr} (hc : ∀ j x, l[j]? = some x → ∀ k u, (frE.f x)[k]? = some u → w.cell? ⟨g, off + j * frE.sz + k, none⟩ = some u)
    (hg : g < w.heap.size) (hb : Below w.heap.size w w') (i : Nat) (x : Fr) (hi : l[i]? = some x) :
    w'.cell? ⟨g, off + i * 3, none⟩ = some (.int .i64 x.gen) ∧ w'.cell? ⟨g, off + i * 3 + 1, none⟩ = some (.int .i64 x.seq) ∧ w'.cell? ⟨g, off + i * 3 + 2, none⟩ = some (.string x.body) := by
  have h0 := hc i x hi 0 (.int .i64 x.gen) rfl
  have h1 := hc i x hi 1 (.int .i64 x.seq) rfl
  have h2 := hc i x hi 2 (.string x.body) rfl
  exact ⟨(hb.cell (p := ⟨g, off + i * 3, none⟩) hg).trans h0, (hb.cell (p := ⟨g, off + i * 3 + 1, none⟩) hg).trans h1, (hb.cell (p := ⟨g, off + i * 3 + 2, none⟩) hg).trans h2⟩

set_option maxRecDepth 100000 in
set_option maxHeartbeats 1000000 in
theorem eqFrameS_same (l : List Fr) (va vb : Value) (w : World) (ha : Rows' frE w va l) (hb : Rows' frE w vb l) (hl : l.length ≤ 1099511627776) :
    Calls Tryd.prog 7 #[va, vb] w fun e w' => e = .returned (.bool true) ∧ Below w.heap.size w w' := by
  rcases ha.ways with ⟨rfl, a, c, rfl⟩ | ⟨hne, ga, oa, ca, rfl, hca, hga, hcla⟩
  · rcases hb.ways with ⟨_, b, d, rfl⟩ | ⟨hne, _⟩
    · clear ha hb
      go_enter Tryd.func7, Tryd.ntmps7
      go_wp2
      go_loop [5] (fun iv => iv = .int .i64 0) (fun _ => 0)
      case atStart => rfl
      case round =>
        obtain rfl := hrel
        go_wp2
        go_ret
        exact ⟨rfl, Below.refl _ _⟩
    · exact absurd rfl hne
  · rcases hb.ways with ⟨e, _⟩ | ⟨_, gb, ob, cb, rfl, hcb, hgb, hclb⟩
    · exact absurd e hne
    · clear ha hb
      have HA := Lib.hid hcla
      have HB := Lib.hid hclb
      clear hcla hclb
      go_enter Tryd.func7, Tryd.ntmps7
      go_wp2
      go_loopw [5] (fun iv wr => ∃ i : Nat, i ≤ l.length ∧ iv = .int .i64 (i : Int) ∧ Below w.heap.size w wr) (fun iv _ => l.length - (intOf iv).toNat)
      case atStart => exact ⟨0, by omega, rfl, Below.refl _ _⟩
      case round =>
        obtain ⟨i, hi, rfl, hbel⟩ := hrel
        by_cases hlt : i < l.length
        · have hg : l[i]? = some l[i] := List.getElem?_eq_getElem hlt
          obtain ⟨a0, a1, a2⟩ := fr_cells HA.out hga hbel i _ hg
          obtain ⟨b0, b1, b2⟩ := fr_cells HB.out hgb hbel i _ hg
          generalize hft : l[i] = f at *
          have hi0 : (0 : Int) ≤ (i : Int) := by omega
          have hi1 : (i : Int) < (l.length : Int) := by omega
          have HS : Hid (∀ w', Below wr.drew.heap.size wr.drew w' → w'.cell? ⟨ga, oa + i * 3, none⟩ = some (.int .i64 f.gen) ∧ w'.cell? ⟨ga, oa + i * 3 + 1, none⟩ = some (.int .i64 f.seq) ∧ w'.cell? ⟨ga, oa + i * 3 + 2, none⟩ = some (.string f.body) ∧ w'.cell? ⟨gb, ob + i * 3, none⟩ = some (.int .i64 f.gen) ∧ w'.cell? ⟨gb, ob + i * 3 + 1, none⟩ = some (.int .i64 f.seq) ∧ w'.cell? ⟨gb, ob + i * 3 + 2, none⟩ = some (.string f.body)) := by
            intro w' hw
            have hw2 : Below w.heap.size w w' := hbel.drew.trans (hw.mono hbel.size)
            obtain ⟨a0, a1, a2⟩ := fr_cells HA.out hga hw2 i _ hg
            obtain ⟨b0, b1, b2⟩ := fr_cells HB.out hgb hw2 i _ hg
            exact ⟨a0, a1, a2, b0, b1, b2⟩
          clear hg hft
          have hE := fun wx => eqFrame_same f wx
          unfold Fr.v at hE
          have HE := Lib.hid hE
          clear hE
          go_wp2
          go_region_held3 (fun w' => w'.cell? ⟨ga, oa + i * 3, none⟩ = some (.int .i64 f.gen) ∧ w'.cell? ⟨ga, oa + i * 3 + 1, none⟩ = some (.int .i64 f.seq) ∧ w'.cell? ⟨ga, oa + i * 3 + 2, none⟩ = some (.string f.body) ∧ w'.cell? ⟨gb, ob + i * 3, none⟩ = some (.int .i64 f.gen) ∧ w'.cell? ⟨gb, ob + i * 3 + 1, none⟩ = some (.int .i64 f.seq) ∧ w'.cell? ⟨gb, ob + i * 3 + 2, none⟩ = some (.string f.body))
            (first | go_keep | exact HS.out _ hb1)
            (first | (go_at_call 16; refine (HE.out _).mono ?_; rintro e w1 ⟨rfl, hb1⟩))
          all_goals
            go_wp2
            go_roundw
            case rel => exact ⟨i + 1, by omega, by go_num, hbel.drew.trans (hb1.mono hbel.size)⟩
            case measure => simp [intOf]; omega
        · go_wp2
          go_ret
          exact ⟨rfl, hbel⟩

/-- The marks of a list of frames. -/
def markF (k : Nat) (j : Nat) : Fr := ⟨((k + 3 * j : Nat) : Int), ((k + 3 * j + 1 : Nat) : Int), mark (k + 3 * j + 2)⟩
def marksF (k n : Nat) : List Fr := (List.range n).map (markF k)
theorem marksF_length (k n : Nat) : (marksF k n).length = n := by simp [marksF]
theorem marksF_at {k n i : Nat} (h : i < n) : (marksF k n)[i]? = some (markF k i) := by simp [marksF, h]

set_option maxRecDepth 100000 in
set_option maxHeartbeats 2000000 in
theorem markFrameS_any (l : List Fr) (v : Value) (k B : Nat) (w0 w : World) (hb : RBuf frE B w0 w v l) (hk : 1 ≤ k) (hk2 : k + 3 * l.length ≤ 1099511627776) :
    Calls Tryd.prog 8 #[v, .int .i64 (k : Int)] w fun e w' => e = .returned (.int .i64 ((k + 3 * l.length : Nat) : Int)) ∧ RBuf frE B w0 w' v (marksF k l.length) ∧ w.grownBy w' v.ownBlock := by
  rcases hb.own.2 with ⟨rfl, h0⟩ | ⟨g, cap, cur, rfl, hg, hh, hnc, hcp, hcs, htake⟩
  · obtain rfl := List.length_eq_zero_iff.1 h0
    go_enter Tryd.func8, Tryd.ntmps8
    go_wp2
    go_loop [1, 5] (fun kv iv => kv = .int .i64 (k : Int) ∧ iv = .int .i64 0) (fun _ _ => 0)
    case atStart => exact ⟨rfl, rfl⟩
    case round =>
      obtain ⟨rfl, rfl⟩ := hrel
      go_wp2
      go_ret
      exact ⟨rfl, hb, World.grownBy.refl _ _⟩
  · clear hh hcs htake hcp
    have hle : l.length ≤ 1099511627776 := by omega
    go_enter Tryd.func8, Tryd.ntmps8
    go_wp2
    go_loopw [1, 5] (fun kv iv wr => ∃ i : Nat, i ≤ l.length ∧ iv = .int .i64 (i : Int) ∧ kv = .int .i64 ((k + 3 * i : Nat) : Int) ∧ RBuf frE B w0 wr (.slice (some ⟨g, 0, none⟩) l.length cap) (putTo (markF k) l i) ∧ w.grownBy wr (some g)) (fun _ iv _ => l.length - (intOf iv).toNat)
    case atStart => exact ⟨0, by omega, rfl, rfl, by rw [putTo_zero]; exact hb, World.grownBy.refl _ _⟩
    case round =>
      obtain ⟨i, hi, rfl, rfl, hbr, hgr⟩ := hrel
      by_cases hlt : i < l.length
      · have hi0 : (0 : Int) ≤ (i : Int) := by omega
        have hi1 : (i : Int) < (l.length : Int) := by omega
        have hml := putTo_length (m := markF k) hi
        have hat := putTo_at (m := markF k) hlt
        have hms := Lib.hid (putTo_set (m := markF k) hlt)
        rw [← hml] at hbr
        obtain ⟨K, hK⟩ : ∃ K : Nat, K = k + 3 * i := ⟨_, rfl⟩
        have HK := Lib.hid hK
        rw [← hK]
        have hK1 : K + 2 ≤ 4611686018427387904 := by omega
        have hK2 : 1 ≤ K := by omega
        clear hK
        generalize l[i] = x at hat
        have c0 : wr.cell? ⟨g, i * 3, none⟩ = some (.int .i64 x.gen) := hbr.cell rfl i _ hat 0 _ rfl
        have f0 := hbr.loose (i * 3)
        have st0 : RBuf frE B w0 (wr.setCell ⟨g, i * 3, none⟩ (.int .i64 (K : Int))) (.slice (some ⟨g, 0, none⟩) (putTo (markF k) l i).length cap) ((putTo (markF k) l i).set i ⟨(K : Int), x.seq, x.body⟩) :=
          hbr.stored i _ ⟨(K : Int), x.seq, x.body⟩ hat 0 (by decide) (.int .i64 (K : Int)) rfl
        have hat0 : ((putTo (markF k) l i).set i ⟨(K : Int), x.seq, x.body⟩)[i]? = some ⟨(K : Int), x.seq, x.body⟩ := List.getElem?_set_self (by omega)
        have hl0 : ((putTo (markF k) l i).set i ⟨(K : Int), x.seq, x.body⟩).length = (putTo (markF k) l i).length := by simp
        rw [← hl0] at st0
        have c1 : (wr.setCell ⟨g, i * 3, none⟩ (.int .i64 (K : Int))).cell? ⟨g, i * 3 + 1, none⟩ = some (.int .i64 x.seq) := st0.cell rfl i _ hat0 1 _ rfl
        have f1 := st0.loose (i * 3 + 1)
        have st1 := st0.stored i _ ⟨(K : Int), (K : Int) + 1, x.body⟩ hat0 1 (by decide) (.int .i64 ((K : Int) + 1)) rfl
        rw [List.set_set, hl0] at st1
        have hg0 : wr.grownBy ((wr.setCell ⟨g, i * 3, none⟩ (.int .i64 (K : Int))).setCell ⟨g, i * 3 + 1, none⟩ (.int .i64 ((K : Int) + 1))) (some g) := (grownBy_store wr g (i * 3) (.int .i64 (K : Int))).trans (grownBy_store _ g (i * 3 + 1) (.int .i64 ((K : Int) + 1)))
        have HF : Hid (∀ w1, Below ((wr.setCell ⟨g, i * 3, none⟩ (.int .i64 (K : Int))).setCell ⟨g, i * 3 + 1, none⟩ (.int .i64 ((K : Int) + 1))).heap.size ((wr.setCell ⟨g, i * 3, none⟩ (.int .i64 (K : Int))).setCell ⟨g, i * 3 + 1, none⟩ (.int .i64 ((K : Int) + 1))) w1 →
            (∃ t, w1.cell? ⟨g, i * 3 + 2, none⟩ = some (.string t)) ∧ w1.frozen? ⟨g, i * 3 + 2, none⟩ = false ∧
            RBuf frE B w0 (w1.setCell ⟨g, i * 3 + 2, none⟩ (.string (mark (K + 2)))) (.slice (some ⟨g, 0, none⟩) l.length cap) (putTo (markF k) l (i + 1)) ∧ w.grownBy (w1.setCell ⟨g, i * 3 + 2, none⟩ (.string (mark (K + 2)))) (some g)) := by
          intro w1 hb1
          have st2 := st1.later hb1
          have hat1 : ((putTo (markF k) l i).set i ⟨(K : Int), (K : Int) + 1, x.body⟩)[i]? = some ⟨(K : Int), (K : Int) + 1, x.body⟩ := List.getElem?_set_self (by omega)
          have hl1 : ((putTo (markF k) l i).set i ⟨(K : Int), (K : Int) + 1, x.body⟩).length = (putTo (markF k) l i).length := by simp
          rw [← hl1] at st2
          have st3 := st2.stored i _ ⟨(K : Int), (K : Int) + 1, mark (K + 2)⟩ hat1 2 (by decide) (.string (mark (K + 2))) rfl
          rw [List.set_set, hl1, hml] at st3
          have e : (⟨(K : Int), (K : Int) + 1, mark (K + 2)⟩ : Fr) = markF k i := by rw [HK.out]; rfl
          rw [e, hms.out] at st3
          exact ⟨⟨_, st2.cell rfl i _ hat1 2 _ rfl⟩, st2.loose _, st3, ((hgr.trans hg0).trans (grownBy_of_below hb1 _)).trans (grownBy_store _ _ _ _)⟩
        clear hbr hat st0 st1 hg0 hgr hat0 hl0
        go_wp2_with (go_at_call 17; refine (markText_at _ (K + 2) _ (by omega) (by omega) (by omega)).mono ?_; rintro e w1 ⟨rfl, hb1⟩; obtain ⟨⟨t, hc1⟩, hf1, hst, hgr⟩ := HF.out w1 hb1)
        go_roundw
        case rel => exact ⟨i + 1, by omega, by go_num, by rw [HK.out]; go_num, hst, hgr⟩
        case measure => simp [intOf]; omega
      · have hfin : Hid (i = l.length) := by show i = l.length; omega
        go_wp2
        go_ret
        refine ⟨?_, ?_, hgr⟩
        · rw [← hfin.out]; rfl
        · have := hbr
          rw [hfin.out, putTo_all] at this
          exact this

set_option maxRecDepth 100000 in
set_option maxHeartbeats 1000000 in
theorem heldFrameS_any (n : Nat) (v : Value) (k : Nat) (w : World) (hb : Rows' frE w v (marksF k n)) (hk : 1 ≤ k) (hk2 : k + 3 * n ≤ 1099511627776) :
    Calls Tryd.prog 9 #[v, .int .i64 (k : Int)] w fun e w' => e = .returned (.int .i64 ((k + 3 * n : Nat) : Int)) ∧ Below w.heap.size w w' := by
  have hmn := marksF_length k n
  rcases hb.ways with ⟨h0, a, c, rfl⟩ | ⟨hne, g, off, cap, rfl, hca, hg, hcl⟩
  · obtain rfl : n = 0 := by rw [h0] at hmn; simpa using hmn.symm
    clear hb h0 hmn
    go_enter Tryd.func9, Tryd.ntmps9
    go_wp2
    go_loop [1, 5] (fun kv iv => kv = .int .i64 (k : Int) ∧ iv = .int .i64 0) (fun _ _ => 0)
    case atStart => exact ⟨rfl, rfl⟩
    case round =>
      obtain ⟨rfl, rfl⟩ := hrel
      go_wp2
      go_ret
      exact ⟨rfl, Below.refl _ _⟩
  · rw [hmn] at *
    have HC := Lib.hid hcl
    clear hcl hb hne hmn
    go_enter Tryd.func9, Tryd.ntmps9
    go_wp2
    go_loopw [1, 5] (fun kv iv wr => ∃ i : Nat, i ≤ n ∧ iv = .int .i64 (i : Int) ∧ kv = .int .i64 ((k + 3 * i : Nat) : Int) ∧ Below w.heap.size w wr) (fun _ iv _ => n - (intOf iv).toNat)
    case atStart => exact ⟨0, by omega, rfl, rfl, Below.refl _ _⟩
    case round =>
      obtain ⟨i, hi, rfl, rfl, hbel⟩ := hrel
      by_cases hlt : i < n
      · have hi0 : (0 : Int) ≤ (i : Int) := by omega
        have hi1 : (i : Int) < (n : Int) := by omega
        obtain ⟨c0, c1, c2⟩ := fr_cells HC.out hg hbel i _ (marksF_at hlt)
        obtain ⟨K, hK⟩ : ∃ K : Nat, K = k + 3 * i := ⟨_, rfl⟩
        have HK := Lib.hid hK
        obtain ⟨t, ht0⟩ : ∃ t, mark (K + 2) = t := ⟨_, rfl⟩
        have ht := Lib.hid ht0
        simp only [markF] at c0 c1 c2
        rw [← hK] at c0 c1 c2 ⊢
        rw [ht0] at c2
        have hK1 : K + 2 ≤ 4611686018427387904 := by omega
        have hK2 : 1 ≤ K := by omega
        have HS : Hid (∀ w', Below wr.drew.heap.size wr.drew w' → w'.cell? ⟨g, off + i * 3 + 2, none⟩ = some (.string t)) := by
          intro w' hw
          have hw2 : Below w.heap.size w w' := hbel.drew.trans (hw.mono hbel.size)
          obtain ⟨_, _, c2⟩ := fr_cells HC.out hg hw2 i _ (marksF_at hlt)
          simp only [markF] at c2
          rw [← HK.out, ht.out] at c2
          exact c2
        clear ht0 hK
        go_wp2
        go_region_held3 (fun w' => w'.cell? ⟨g, off + i * 3 + 2, none⟩ = some (.string t))
          (first | go_keep | exact HS.out _ hb1)
          (first | (go_at_call 17; refine (markText_at _ (K + 2) _ (by omega) (by omega) (by omega)).mono ?_; rintro e w1 ⟨rfl, hb1⟩; rw [ht.out]))
        all_goals
          go_wp2
          go_roundw
          case rel => exact ⟨i + 1, by omega, by go_num, by rw [HK.out]; go_num, hbel.drew.trans (hb1.mono hbel.size)⟩
          case measure => simp [intOf]; omega
      · have hfin : Hid (i = n) := by show i = n; omega
        go_wp2
        go_ret
        exact ⟨by rw [← hfin.out]; rfl, hbel⟩

end Go.Proofs.YtmmgnpjhlmiafaqDoor
