/- Texts of our own, joined. -/
import Derived.Test.YtgcnebepklelpaaGreatJa
import Derived.Test.YtgcnebepklelpaaGreatJh
import Derived.Lib.Hide
import Derived.Test.YtgcnebepklelpaaGreatJb
import Derived.Test.YtgcnebepklelpaaGreatJd
import Derived.Test.YtgcnebepklelpaaGreatJc
import Derived.Test.YtgcnebepklelpaaGreatJg
/- The helpers of the exact laws over lists of mails: two alike are alike; each is marked, and the marks are held. -/
namespace Go.Proofs.YtgcnebepklelpaaGreat
open Go.RowKit

def Ml.v (f : Ml) : Value := .agg #[.int .i64 f.uid, .int .i64 f.flags, .string f.text]
set_option maxRecDepth 100000 in
theorem eqMail_same (f : Ml) (w : World) : Calls Tryz.prog 101 #[f.v, f.v] w fun e w' => e = .returned (.bool true) ∧ Below w.heap.size w w' := by
  unfold Ml.v
  go_enter Tryz.func101, Tryz.ntmps101
  go_wp2
  go_ret
  exact ⟨rfl, ((Below.refl _ _).alloc (Nat.le_refl _) _).alloc (by simp) _⟩

theorem ml_cells {w w' : World} {g off : Nat} {l : List Ml} (hc : ∀ j x, l[j]? = some x → ∀ k u, (mlE.f x)[k]? = some u → w.cell? ⟨g, off + j * mlE.sz + k, none⟩ = some u)
    (hg : g < w.heap.size) (hb : Below w.heap.size w w') (i : Nat) (x : Ml) (hi : l[i]? = some x) :
    w'.cell? ⟨g, off + i * 3, none⟩ = some (.int .i64 x.uid) ∧ w'.cell? ⟨g, off + i * 3 + 1, none⟩ = some (.int .i64 x.flags) ∧ w'.cell? ⟨g, off + i * 3 + 2, none⟩ = some (.string x.text) := by
  have h0 := hc i x hi 0 (.int .i64 x.uid) rfl
  have h1 := hc i x hi 1 (.int .i64 x.flags) rfl
  have h2 := hc i x hi 2 (.string x.text) rfl
  exact ⟨(hb.cell (p := ⟨g, off + i * 3, none⟩) hg).trans h0, (hb.cell (p := ⟨g, off + i * 3 + 1, none⟩) hg).trans h1, (hb.cell (p := ⟨g, off + i * 3 + 2, none⟩) hg).trans h2⟩

set_option maxRecDepth 100000 in
set_option maxHeartbeats 1000000 in
theorem eqMailS_same (l : List Ml) (va vb : Value) (w : World) (ha : Rows' mlE w va l) (hb : Rows' mlE w vb l) (hl : l.length ≤ 1099511627776) :
    Calls Tryz.prog 71 #[va, vb] w fun e w' => e = .returned (.bool true) ∧ Below w.heap.size w w' := by
  rcases ha.ways with ⟨rfl, a, c, rfl⟩ | ⟨hne, ga, oa, ca, rfl, hca, hga, hcla⟩
  · rcases hb.ways with ⟨_, b, d, rfl⟩ | ⟨hne, _⟩
    · clear ha hb
      go_enter Tryz.func71, Tryz.ntmps71
      go_wp2
      go_loop [5] (fun iv => iv = .int .i64 0) (fun _ => 0)
      case atStart => rfl
      case round =>
        obtain rfl := hrel
        go_wp2
        go_ret
        exact ⟨rfl, Below.refl _ _⟩
    · exact absurd rfl hne
  · rcases hb.ways with ⟨e, _⟩ | ⟨_, gb, ob, cb, rfl, hcb, hgb, hclb⟩
    · exact absurd e hne
    · clear ha hb
      have HA := Lib.hid hcla
      have HB := Lib.hid hclb
      clear hcla hclb
      go_enter Tryz.func71, Tryz.ntmps71
      go_wp2
      go_loopw [5] (fun iv wr => ∃ i : Nat, i ≤ l.length ∧ iv = .int .i64 (i : Int) ∧ Below w.heap.size w wr) (fun iv _ => l.length - (intOf iv).toNat)
      case atStart => exact ⟨0, by omega, rfl, Below.refl _ _⟩
      case round =>
        obtain ⟨i, hi, rfl, hbel⟩ := hrel
        by_cases hlt : i < l.length
        · have hg : l[i]? = some l[i] := List.getElem?_eq_getElem hlt
          obtain ⟨a0, a1, a2⟩ := ml_cells HA.out hga hbel i _ hg
          obtain ⟨b0, b1, b2⟩ := ml_cells HB.out hgb hbel i _ hg
          generalize hft : l[i] = f at *
          have hi0 : (0 : Int) ≤ (i : Int) := by omega
          have hi1 : (i : Int) < (l.length : Int) := by omega
          have HS : Hid (∀ w', Below wr.drew.heap.size wr.drew w' → w'.cell? ⟨ga, oa + i * 3, none⟩ = some (.int .i64 f.uid) ∧ w'.cell? ⟨ga, oa + i * 3 + 1, none⟩ = some (.int .i64 f.flags) ∧ w'.cell? ⟨ga, oa + i * 3 + 2, none⟩ = some (.string f.text) ∧ w'.cell? ⟨gb, ob + i * 3, none⟩ = some (.int .i64 f.uid) ∧ w'.cell? ⟨gb, ob + i * 3 + 1, none⟩ = some (.int .i64 f.flags) ∧ w'.cell? ⟨gb, ob + i * 3 + 2, none⟩ = some (.string f.text)) := by
            intro w' hw
            have hw2 : Below w.heap.size w w' := hbel.drew.trans (hw.mono hbel.size)
            obtain ⟨a0, a1, a2⟩ := ml_cells HA.out hga hw2 i _ hg
            obtain ⟨b0, b1, b2⟩ := ml_cells HB.out hgb hw2 i _ hg
            exact ⟨a0, a1, a2, b0, b1, b2⟩
          clear hg hft
          have hE := fun wx => eqMail_same f wx
          unfold Ml.v at hE
          have HE := Lib.hid hE
          clear hE
          go_wp2
          go_region_held3 (fun w' => w'.cell? ⟨ga, oa + i * 3, none⟩ = some (.int .i64 f.uid) ∧ w'.cell? ⟨ga, oa + i * 3 + 1, none⟩ = some (.int .i64 f.flags) ∧ w'.cell? ⟨ga, oa + i * 3 + 2, none⟩ = some (.string f.text) ∧ w'.cell? ⟨gb, ob + i * 3, none⟩ = some (.int .i64 f.uid) ∧ w'.cell? ⟨gb, ob + i * 3 + 1, none⟩ = some (.int .i64 f.flags) ∧ w'.cell? ⟨gb, ob + i * 3 + 2, none⟩ = some (.string f.text))
            (first | go_keep | exact HS.out _ hb1)
            (first | (go_at_call 101; refine (HE.out _).mono ?_; rintro e w1 ⟨rfl, hb1⟩))
          all_goals
            go_wp2
            go_roundw
            case rel => exact ⟨i + 1, by omega, by go_num, hbel.drew.trans (hb1.mono hbel.size)⟩
            case measure => simp [intOf]; omega
        · go_wp2
          go_ret
          exact ⟨rfl, hbel⟩

def markL (k : Nat) (j : Nat) : Ml := ⟨((k + 3 * j : Nat) : Int), ((k + 3 * j + 1 : Nat) : Int), mark (k + 3 * j + 2)⟩
def marksL (k n : Nat) : List Ml := (List.range n).map (markL k)
theorem marksL_length (k n : Nat) : (marksL k n).length = n := by simp [marksL]
theorem marksL_at {k n i : Nat} (h : i < n) : (marksL k n)[i]? = some (markL k i) := by simp [marksL, h]

set_option maxRecDepth 100000 in
set_option maxHeartbeats 2000000 in
theorem markMailS_any (l : List Ml) (v : Value) (k B : Nat) (w0 w : World) (hb : RBuf mlE B w0 w v l) (hk : 1 ≤ k) (hk2 : k + 3 * l.length ≤ 1099511627776) :
    Calls Tryz.prog 51 #[v, .int .i64 (k : Int)] w fun e w' => e = .returned (.int .i64 ((k + 3 * l.length : Nat) : Int)) ∧ RBuf mlE B w0 w' v (marksL k l.length) ∧ w.grownBy w' v.ownBlock := by
  rcases hb.own.2 with ⟨rfl, h0⟩ | ⟨g, cap, cur, rfl, hg, hh, hnc, hcp, hcs, htake⟩
  · obtain rfl := List.length_eq_zero_iff.1 h0
    go_enter Tryz.func51, Tryz.ntmps51
    go_wp2
    go_loop [1, 5] (fun kv iv => kv = .int .i64 (k : Int) ∧ iv = .int .i64 0) (fun _ _ => 0)
    case atStart => exact ⟨rfl, rfl⟩
    case round =>
      obtain ⟨rfl, rfl⟩ := hrel
      go_wp2
      go_ret
      exact ⟨rfl, hb, World.grownBy.refl _ _⟩
  · clear hh hcs htake hcp
    have hle : l.length ≤ 1099511627776 := by omega
    go_enter Tryz.func51, Tryz.ntmps51
    go_wp2
    go_loopw [1, 5] (fun kv iv wr => ∃ i : Nat, i ≤ l.length ∧ iv = .int .i64 (i : Int) ∧ kv = .int .i64 ((k + 3 * i : Nat) : Int) ∧ RBuf mlE B w0 wr (.slice (some ⟨g, 0, none⟩) l.length cap) (putTo (markL k) l i) ∧ w.grownBy wr (some g)) (fun _ iv _ => l.length - (intOf iv).toNat)
    case atStart => exact ⟨0, by omega, rfl, rfl, by rw [putTo_zero]; exact hb, World.grownBy.refl _ _⟩
    case round =>
      obtain ⟨i, hi, rfl, rfl, hbr, hgr⟩ := hrel
      by_cases hlt : i < l.length
      · have hi0 : (0 : Int) ≤ (i : Int) := by omega
        have hi1 : (i : Int) < (l.length : Int) := by omega
        have hml := putTo_length (m := markL k) hi
        have hat := putTo_at (m := markL k) hlt
        have hms := Lib.hid (putTo_set (m := markL k) hlt)
        rw [← hml] at hbr
        obtain ⟨K, hK⟩ : ∃ K : Nat, K = k + 3 * i := ⟨_, rfl⟩
        have HK := Lib.hid hK
        rw [← hK]
        have hK1 : K + 2 ≤ 4611686018427387904 := by omega
        have hK2 : 1 ≤ K := by omega
        clear hK
        generalize l[i] = x at hat
        have c0 : wr.cell? ⟨g, i * 3, none⟩ = some (.int .i64 x.uid) := hbr.cell rfl i _ hat 0 _ rfl
        have f0 := hbr.loose (i * 3)
        have st0 : RBuf mlE B w0 (wr.setCell ⟨g, i * 3, none⟩ (.int .i64 (K : Int))) (.slice (some ⟨g, 0, none⟩) (putTo (markL k) l i).length cap) ((putTo (markL k) l i).set i ⟨(K : Int), x.flags, x.text⟩) :=
          hbr.stored i _ ⟨(K : Int), x.flags, x.text⟩ hat 0 (by decide) (.int .i64 (K : Int)) rfl
        have hat0 : ((putTo (markL k) l i).set i ⟨(K : Int), x.flags, x.text⟩)[i]? = some ⟨(K : Int), x.flags, x.text⟩ := List.getElem?_set_self (by omega)
        have hl0 : ((putTo (markL k) l i).set i ⟨(K : Int), x.flags, x.text⟩).length = (putTo (markL k) l i).length := by simp
        rw [← hl0] at st0
        have c1 : (wr.setCell ⟨g, i * 3, none⟩ (.int .i64 (K : Int))).cell? ⟨g, i * 3 + 1, none⟩ = some (.int .i64 x.flags) := st0.cell rfl i _ hat0 1 _ rfl
        have f1 := st0.loose (i * 3 + 1)
        have st1 := st0.stored i _ ⟨(K : Int), (K : Int) + 1, x.text⟩ hat0 1 (by decide) (.int .i64 ((K : Int) + 1)) rfl
        rw [List.set_set, hl0] at st1
        have hg0 : wr.grownBy ((wr.setCell ⟨g, i * 3, none⟩ (.int .i64 (K : Int))).setCell ⟨g, i * 3 + 1, none⟩ (.int .i64 ((K : Int) + 1))) (some g) := (grownBy_store wr g (i * 3) (.int .i64 (K : Int))).trans (grownBy_store _ g (i * 3 + 1) (.int .i64 ((K : Int) + 1)))
        have HF : Hid (∀ w1, Below ((wr.setCell ⟨g, i * 3, none⟩ (.int .i64 (K : Int))).setCell ⟨g, i * 3 + 1, none⟩ (.int .i64 ((K : Int) + 1))).heap.size ((wr.setCell ⟨g, i * 3, none⟩ (.int .i64 (K : Int))).setCell ⟨g, i * 3 + 1, none⟩ (.int .i64 ((K : Int) + 1))) w1 →
            (∃ t, w1.cell? ⟨g, i * 3 + 2, none⟩ = some (.string t)) ∧ w1.frozen? ⟨g, i * 3 + 2, none⟩ = false ∧
            RBuf mlE B w0 (w1.setCell ⟨g, i * 3 + 2, none⟩ (.string (mark (K + 2)))) (.slice (some ⟨g, 0, none⟩) l.length cap) (putTo (markL k) l (i + 1)) ∧ w.grownBy (w1.setCell ⟨g, i * 3 + 2, none⟩ (.string (mark (K + 2)))) (some g)) := by
          intro w1 hb1
          have st2 := st1.later hb1
          have hat1 : ((putTo (markL k) l i).set i ⟨(K : Int), (K : Int) + 1, x.text⟩)[i]? = some ⟨(K : Int), (K : Int) + 1, x.text⟩ := List.getElem?_set_self (by omega)
          have hl1 : ((putTo (markL k) l i).set i ⟨(K : Int), (K : Int) + 1, x.text⟩).length = (putTo (markL k) l i).length := by simp
          rw [← hl1] at st2
          have st3 := st2.stored i _ ⟨(K : Int), (K : Int) + 1, mark (K + 2)⟩ hat1 2 (by decide) (.string (mark (K + 2))) rfl
          rw [List.set_set, hl1, hml] at st3
          have e : (⟨(K : Int), (K : Int) + 1, mark (K + 2)⟩ : Ml) = markL k i := by rw [HK.out]; rfl
          rw [e, hms.out] at st3
          exact ⟨⟨_, st2.cell rfl i _ hat1 2 _ rfl⟩, st2.loose _, st3, ((hgr.trans hg0).trans (grownBy_of_below hb1 _)).trans (grownBy_store _ _ _ _)⟩
        clear hbr hat st0 st1 hg0 hgr hat0 hl0
        go_wp2_with (go_at_call 50; refine (markText_at _ (K + 2) _ (by omega) (by omega) (by omega)).mono ?_; rintro e w1 ⟨rfl, hb1⟩; obtain ⟨⟨t, hc1⟩, hf1, hst, hgr⟩ := HF.out w1 hb1)
        go_roundw
        case rel => exact ⟨i + 1, by omega, by go_num, by rw [HK.out]; go_num, hst, hgr⟩
        case measure => simp [intOf]; omega
      · have hfin : Hid (i = l.length) := by show i = l.length; omega
        go_wp2
        go_ret
        refine ⟨?_, ?_, hgr⟩
        · rw [← hfin.out]; rfl
        · have := hbr
          rw [hfin.out, putTo_all] at this
          exact this

set_option maxRecDepth 100000 in
set_option maxHeartbeats 1000000 in
theorem heldMailS_any (n : Nat) (v : Value) (k : Nat) (w : World) (hb : Rows' mlE w v (marksL k n)) (hk : 1 ≤ k) (hk2 : k + 3 * n ≤ 1099511627776) :
    Calls Tryz.prog 52 #[v, .int .i64 (k : Int)] w fun e w' => e = .returned (.int .i64 ((k + 3 * n : Nat) : Int)) ∧ Below w.heap.size w w' := by
  have hmn := marksL_length k n
  rcases hb.ways with ⟨h0, a, c, rfl⟩ | ⟨hne, g, off, cap, rfl, hca, hg, hcl⟩
  · obtain rfl : n = 0 := by rw [h0] at hmn; simpa using hmn.symm
    clear hb h0 hmn
    go_enter Tryz.func52, Tryz.ntmps52
    go_wp2
    go_loop [1, 5] (fun kv iv => kv = .int .i64 (k : Int) ∧ iv = .int .i64 0) (fun _ _ => 0)
    case atStart => exact ⟨rfl, rfl⟩
    case round =>
      obtain ⟨rfl, rfl⟩ := hrel
      go_wp2
      go_ret
      exact ⟨rfl, Below.refl _ _⟩
  · rw [hmn] at *
    have HC := Lib.hid hcl
    clear hcl hb hne hmn
    go_enter Tryz.func52, Tryz.ntmps52
    go_wp2
    go_loopw [1, 5] (fun kv iv wr => ∃ i : Nat, i ≤ n ∧ iv = .int .i64 (i : Int) ∧ kv = .int .i64 ((k + 3 * i : Nat) : Int) ∧ Below w.heap.size w wr) (fun _ iv _ => n - (intOf iv).toNat)
    case atStart => exact ⟨0, by omega, rfl, rfl, Below.refl _ _⟩
    case round =>
      obtain ⟨i, hi, rfl, rfl, hbel⟩ := hrel
      by_cases hlt : i < n
      · have hi0 : (0 : Int) ≤ (i : Int) := by omega
        have hi1 : (i : Int) < (n : Int) := by omega
        obtain ⟨c0, c1, c2⟩ := ml_cells HC.out hg hbel i _ (marksL_at hlt)
        obtain ⟨K, hK⟩ : ∃ K : Nat, K = k + 3 * i := ⟨_, rfl⟩
        have HK := Lib.hid hK
        obtain ⟨t, ht0⟩ : ∃ t, mark (K + 2) = t := ⟨_, rfl⟩
        have ht := Lib.hid ht0
        simp only [markL] at c0 c1 c2
        rw [← hK] at c0 c1 c2 ⊢
        rw [ht0] at c2
        have hK1 : K + 2 ≤ 4611686018427387904 := by omega
        have hK2 : 1 ≤ K := by omega
        have HS : Hid (∀ w', Below wr.drew.heap.size wr.drew w' → w'.cell? ⟨g, off + i * 3 + 2, none⟩ = some (.string t)) := by
          intro w' hw
          have hw2 : Below w.heap.size w w' := hbel.drew.trans (hw.mono hbel.size)
          obtain ⟨_, _, c2⟩ := ml_cells HC.out hg hw2 i _ (marksL_at hlt)
          simp only [markL] at c2
          rw [← HK.out, ht.out] at c2
          exact c2
        clear ht0 hK
        go_wp2
        go_region_held3 (fun w' => w'.cell? ⟨g, off + i * 3 + 2, none⟩ = some (.string t))
          (first | go_keep | exact HS.out _ hb1)
          (first | (go_at_call 50; refine (markText_at _ (K + 2) _ (by omega) (by omega) (by omega)).mono ?_; rintro e w1 ⟨rfl, hb1⟩; rw [ht.out]))
        all_goals
          go_wp2
          go_roundw
          case rel => exact ⟨i + 1, by omega, by go_num, by rw [HK.out]; go_num, hbel.drew.trans (hb1.mono hbel.size)⟩
          case measure => simp [intOf]; omega
      · have hfin : Hid (i = n) := by show i = n; omega
        go_wp2
        go_ret
        exact ⟨by rw [← hfin.out]; rfl, hbel⟩

end Go.Proofs.YtgcnebepklelpaaGreat

/- The helpers of the exact laws over boxes and states: two alike are alike. -/
namespace Go.Proofs.YtgcnebepklelpaaGreat
open Go.RowKit

def BRd (w : World) (v : Value) (bs : List Bx) : Prop := ∃ hs : List BxH, Rows' hdE w v hs ∧ hs.length = bs.length ∧
  ∀ (j : Nat) (h : BxH) (b : Bx), hs[j]? = some h → bs[j]? = some b → (h.valid = b.valid ∧ h.user = b.user ∧ h.name = b.name ∧ h.next = b.next) ∧ Rows' mlE w h.mv b.mails
theorem StO.rd {B : Nat} {w : World} {v : Value} {bs : List Bx} {hs : List BxH} (h : StO B w v bs hs) : BRd w v bs :=
  ⟨hs, h.row.rows, h.len, fun j x b h1 h2 => ⟨(h.at' j x b h1 h2).1, (h.at' j x b h1 h2).2.rows⟩⟩
theorem BRd.later {w w' : World} {v : Value} {bs : List Bx} (h : BRd w v bs) (hb : Below w.heap.size w w') : BRd w' v bs := by
  obtain ⟨hs, h1, h2, h3⟩ := h
  exact ⟨hs, h1.later hb, h2, fun j x b e1 e2 => ⟨(h3 j x b e1 e2).1, (h3 j x b e1 e2).2.later hb⟩⟩
theorem BRd.boxes {w : World} {v : Value} {bs : List Bx} (h : BRd w v bs) : ∃ (ad : Option Addr) (cap : Nat), v = .slice ad bs.length cap ∧ ∀ X, Below w.heap.size w X → ∀ (i : Nat) (b : Bx), bs[i]? = some b → ∃ (g off : Nat) (a : Option Addr) (n c : Nat), ad = some ⟨g, off, none⟩ ∧
    X.cell? ⟨g, off + i * 5, none⟩ = some (.int .i64 b.valid) ∧ X.cell? ⟨g, off + i * 5 + 1, none⟩ = some (.string b.user) ∧ X.cell? ⟨g, off + i * 5 + 2, none⟩ = some (.string b.name) ∧ X.cell? ⟨g, off + i * 5 + 3, none⟩ = some (.int .i64 b.next) ∧ X.cell? ⟨g, off + i * 5 + 4, none⟩ = some (.slice a n c) ∧ Rows' mlE w (.slice a n c) b.mails := by
  obtain ⟨hs, h1, h2, h3⟩ := h
  rcases h1.ways with ⟨rfl, a, c, rfl⟩ | ⟨hne, g, off, c, rfl, hc, hg, hcl⟩
  · have : bs = [] := by rw [← List.length_eq_zero_iff, ← h2]; rfl
    subst this
    exact ⟨a, c, rfl, fun X _ i b hi => by cases hi⟩
  · refine ⟨_, c, by rw [h2], fun X hb i b hi => ?_⟩
    have hl : i < hs.length := by rw [h2]; exact (List.getElem?_eq_some_iff.1 hi).1
    have hx : hs[i]? = some hs[i] := List.getElem?_eq_getElem hl
    obtain ⟨⟨e1, e2, e3, e4⟩, hm⟩ := h3 i _ b hx hi
    have hk : ∀ k u, (hdE.f hs[i])[k]? = some u → X.cell? ⟨g, off + i * 5 + k, none⟩ = some u := fun k u hu => (hb.cell (p := ⟨g, off + i * 5 + k, none⟩) hg).trans (hcl i _ hx k u hu)
    refine ⟨g, off, hs[i].a, hs[i].n, hs[i].c, rfl, ?_, ?_, ?_, ?_, hk 4 _ rfl, hm⟩
    · rw [← e1]; exact hk 0 _ rfl
    · rw [← e2]; exact hk 1 _ rfl
    · rw [← e3]; exact hk 2 _ rfl
    · rw [← e4]; exact hk 3 _ rfl

set_option maxRecDepth 100000 in
set_option maxHeartbeats 1000000 in
theorem eqBox_same (b : Bx) (a1 a2 : Option Addr) (n1 n2 c1 c2 : Nat) (w : World) (ha : Rows' mlE w (.slice a1 n1 c1) b.mails) (hb : Rows' mlE w (.slice a2 n2 c2) b.mails) (hl : b.mails.length ≤ 1099511627776) :
    Calls Tryz.prog 45 #[.agg #[.int .i64 b.valid, .string b.user, .string b.name, .int .i64 b.next, .slice a1 n1 c1], .agg #[.int .i64 b.valid, .string b.user, .string b.name, .int .i64 b.next, .slice a2 n2 c2]] w fun e w' => e = .returned (.bool true) ∧ Below w.heap.size w w' := by
  have b1 : Below w.heap.size w ((w.alloc (.cells #[.int .i64 b.valid, .string b.user, .string b.name, .int .i64 b.next, .slice a1 n1 c1] 78)).alloc (.cells #[.int .i64 b.valid, .string b.user, .string b.name, .int .i64 b.next, .slice a2 n2 c2] 78)) := ((Below.refl _ _).alloc (Nat.le_refl _) _).alloc (by simp) _
  have HE := Lib.hid (fun wx (hx : Below w.heap.size w wx) => eqMailS_same b.mails _ _ wx (ha.later hx) (hb.later hx) hl)
  clear ha hb
  go_enter Tryz.func45, Tryz.ntmps45
  go_wp2_with (go_at_call 71; refine (HE.out _ b1).mono ?_; rintro e w1 ⟨rfl, k1⟩)
  go_ret
  exact ⟨rfl, b1.trans (k1.mono b1.size)⟩

set_option maxRecDepth 100000 in
set_option maxHeartbeats 2000000 in
theorem eqBoxS_same (bs : List Bx) (va vb : Value) (w : World) (ha : BRd w va bs) (hb : BRd w vb bs) (hl : bs.length ≤ 1099511627776) (hm : ∀ b ∈ bs, b.mails.length ≤ 1099511627776) :
    Calls Tryz.prog 21 #[va, vb] w fun e w' => e = .returned (.bool true) ∧ Below w.heap.size w w' := by
  obtain ⟨ad, cap, rfl, hrowa⟩ := ha.boxes
  obtain ⟨ad2, cap2, rfl, hrowb⟩ := hb.boxes
  have HA := Lib.hid hrowa
  have HB := Lib.hid hrowb
  have HM := Lib.hid hm
  clear ha hb hrowa hrowb hm
  go_enter Tryz.func21, Tryz.ntmps21
  go_wp2
  go_loopw [5] (fun iv wr => ∃ i : Nat, i ≤ bs.length ∧ iv = .int .i64 (i : Int) ∧ Below w.heap.size w wr) (fun iv _ => bs.length - (intOf iv).toNat)
  case atStart => exact ⟨0, by omega, rfl, Below.refl _ _⟩
  case round =>
    obtain ⟨i, hi, rfl, hbel⟩ := hrel
    by_cases hlt : i < bs.length
    · have hg : bs[i]? = some bs[i] := List.getElem?_eq_getElem hlt
      have hbd : Below w.heap.size w wr.drew := hbel.drew
      obtain ⟨ga, oa, a1, n1, c1, rfl, p0, p1, p2, p3, p4, ra⟩ := HA.out _ hbd i _ hg
      obtain ⟨gb, ob, a2, n2, c2, rfl, q0, q1, q2, q3, q4, rb⟩ := HB.out _ hbd i _ hg
      have hml := HM.out bs[i] (List.getElem_mem hlt)
      have HS : Hid (∀ X, Below wr.drew.heap.size wr.drew X → X.cell? ⟨ga, oa + i * 5, none⟩ = some (.int .i64 bs[i].valid) ∧ X.cell? ⟨ga, oa + i * 5 + 1, none⟩ = some (.string bs[i].user) ∧ X.cell? ⟨ga, oa + i * 5 + 2, none⟩ = some (.string bs[i].name) ∧ X.cell? ⟨ga, oa + i * 5 + 3, none⟩ = some (.int .i64 bs[i].next) ∧ X.cell? ⟨ga, oa + i * 5 + 4, none⟩ = some (.slice a1 n1 c1) ∧
          X.cell? ⟨gb, ob + i * 5, none⟩ = some (.int .i64 bs[i].valid) ∧ X.cell? ⟨gb, ob + i * 5 + 1, none⟩ = some (.string bs[i].user) ∧ X.cell? ⟨gb, ob + i * 5 + 2, none⟩ = some (.string bs[i].name) ∧ X.cell? ⟨gb, ob + i * 5 + 3, none⟩ = some (.int .i64 bs[i].next) ∧ X.cell? ⟨gb, ob + i * 5 + 4, none⟩ = some (.slice a2 n2 c2)) := by
        intro X hX
        have cc : ∀ {g o : Nat} {u : Value}, wr.drew.cell? ⟨g, o, none⟩ = some u → X.cell? ⟨g, o, none⟩ = some u := fun {g o u} h => (hX.cell (p := ⟨g, o, none⟩) (World.block_lt_of_cell? _ _ h)).trans h
        exact ⟨cc p0, cc p1, cc p2, cc p3, cc p4, cc q0, cc q1, cc q2, cc q3, cc q4⟩
      have HE := Lib.hid (fun wx (hx : Below w.heap.size w wx) => eqBox_same bs[i] a1 a2 n1 n2 c1 c2 wx (ra.later hx) (rb.later hx) hml)
      generalize bs[i] = b at *
      have hi0 : (0 : Int) ≤ (i : Int) := by omega
      have hi1 : (i : Int) < (bs.length : Int) := by omega
      clear hg ra rb hml
      go_wp2
      go_region_held3 (fun X => X.cell? ⟨ga, oa + i * 5, none⟩ = some (.int .i64 b.valid) ∧ X.cell? ⟨ga, oa + i * 5 + 1, none⟩ = some (.string b.user) ∧ X.cell? ⟨ga, oa + i * 5 + 2, none⟩ = some (.string b.name) ∧ X.cell? ⟨ga, oa + i * 5 + 3, none⟩ = some (.int .i64 b.next) ∧ X.cell? ⟨ga, oa + i * 5 + 4, none⟩ = some (.slice a1 n1 c1) ∧
          X.cell? ⟨gb, ob + i * 5, none⟩ = some (.int .i64 b.valid) ∧ X.cell? ⟨gb, ob + i * 5 + 1, none⟩ = some (.string b.user) ∧ X.cell? ⟨gb, ob + i * 5 + 2, none⟩ = some (.string b.name) ∧ X.cell? ⟨gb, ob + i * 5 + 3, none⟩ = some (.int .i64 b.next) ∧ X.cell? ⟨gb, ob + i * 5 + 4, none⟩ = some (.slice a2 n2 c2))
        (first | exact HS.out _ (Below.refl _ _) | exact HS.out _ hb1)
        (first | (go_at_call 45; refine (HE.out _ hbd).mono ?_; rintro e w1 ⟨rfl, hb1⟩))
      all_goals
        go_wp2
        go_roundw
        case rel => exact ⟨i + 1, by omega, by go_num, hbd.trans (hb1.mono hbd.size)⟩
        case measure => simp [intOf]; omega
    · go_wp2
      go_ret
      exact ⟨rfl, hbel⟩

set_option maxRecDepth 100000 in
set_option maxHeartbeats 1000000 in
theorem eqState_same (bs : List Bx) (va vb : Value) (w : World) (ha : BRd w va bs) (hb : BRd w vb bs) (hl : bs.length ≤ 1099511627776) (hm : ∀ b ∈ bs, b.mails.length ≤ 1099511627776) :
    Calls Tryz.prog 8 #[.agg #[va], .agg #[vb]] w fun e w' => e = .returned (.bool true) ∧ Below w.heap.size w w' := by
  obtain ⟨ad, cap, rfl, _⟩ := ha.boxes
  obtain ⟨ad2, cap2, rfl, _⟩ := hb.boxes
  have b1 : Below w.heap.size w ((w.alloc (.cells #[.slice ad bs.length cap] 35)).alloc (.cells #[.slice ad2 bs.length cap2] 35)) := ((Below.refl _ _).alloc (Nat.le_refl _) _).alloc (by simp) _
  have HE := Lib.hid (fun wx (hx : Below w.heap.size w wx) => eqBoxS_same bs _ _ wx (ha.later hx) (hb.later hx) hl hm)
  clear ha hb hm
  go_enter Tryz.func8, Tryz.ntmps8
  go_wp2_with (go_at_call 21; refine (HE.out _ b1).mono ?_; rintro e w1 ⟨rfl, k1⟩)
  go_ret
  exact ⟨rfl, b1.trans (k1.mono b1.size)⟩

end Go.Proofs.YtgcnebepklelpaaGreat

/- Boxes in memory of their own, in a range of blocks. -/
namespace Go.Proofs.YtgcnebepklelpaaGreat
open Go.RowKit

theorem RBuf.stayB {α : Type} {E : Enc α} {B : Nat} {w w' : World} {v : Value} {l : List α} (h : RBuf E B w w v l) (hz : w.heap.size ≤ w'.heap.size) (hk : ∀ k, v.ownBlock = some k → w'.heap[k]? = w.heap[k]?) : RBuf E B w' w' v l := by
  refine ⟨⟨h.own.1, ?_⟩, Below.refl _ _, Nat.le_trans h.le hz⟩
  rcases h.own.2 with h1 | ⟨g, cap, cur, h1, h2, h3, h4⟩
  · exact .inl h1
  · exact .inr ⟨g, cap, cur, h1, h2, (hk g (by rw [h1]; rfl)).trans h3, h4⟩
theorem StO.stayB {B : Nat} {w w' : World} {v : Value} {bs : List Bx} {hs : List BxH} (h : StO B w v bs hs) (hz : w.heap.size ≤ w'.heap.size) (h1 : ∀ k, v.ownBlock = some k → w'.heap[k]? = w.heap[k]?) (h2 : ∀ (j : Nat) (x : BxH), hs[j]? = some x → ∀ k, x.mv.ownBlock = some k → w'.heap[k]? = w.heap[k]?) : StO B w' v bs hs :=
  ⟨h.row.stayB hz h1, h.len, fun j x b e1 e2 => ⟨(h.at' j x b e1 e2).1, (h.at' j x b e1 e2).2.stayB hz (h2 j x e1)⟩, h.far, h.apart⟩
structure BOwn (B T : Nat) (w : World) (v : Value) (l : List Bx) (hs : List BxH) : Prop where
  own : StO B w v l hs
  le : T ≤ w.heap.size
  row : ∀ k, v.ownBlock = some k → k < T
  its : ∀ (j : Nat) (x : BxH), hs[j]? = some x → ∀ k, x.mv.ownBlock = some k → k < T
theorem StO.bown {B : Nat} {w : World} {v : Value} {l : List Bx} {hs : List BxH} (h : StO B w v l hs) : BOwn B w.heap.size w v l hs :=
  ⟨h, Nat.le_refl _, fun k hk => (h.where'.1 k hk).2, fun j x hj k hk => (h.where'.2 j x hj k hk).2⟩
theorem BOwn.kept {B T B' T' : Nat} {w w' : World} {v : Value} {l : List Bx} {hs : List BxH} (h : BOwn B T w v l hs) (hk : Kept B' T' w w') (hd : T ≤ B' ∨ T' ≤ B) : BOwn B T w' v l hs :=
  ⟨h.own.stayB hk.size (fun k e => hk.block k (h.own.where'.1 k e).2 (by have := h.row k e; have := (h.own.where'.1 k e).1; omega)) (fun j x hj k e => hk.block k (h.own.where'.2 j x hj k e).2 (by have := h.its j x hj k e; have := (h.own.where'.2 j x hj k e).1; omega)), Nat.le_trans h.le hk.size, h.row, h.its⟩
theorem BOwn.later {B T : Nat} {w w' : World} {v : Value} {l : List Bx} {hs : List BxH} (h : BOwn B T w v l hs) (hb : Below w.heap.size w w') : BOwn B T w' v l hs :=
  h.kept (Kept.of_below hb T T) (.inl (Nat.le_refl _))
theorem BOwn.rd {B T : Nat} {w : World} {v : Value} {l : List Bx} {hs : List BxH} (h : BOwn B T w v l hs) : BRd w v l := h.own.rd
theorem StO.lowerB {B B' : Nat} {w : World} {v : Value} {bs : List Bx} {hs : List BxH} (h : StO B w v bs hs) (hB : B' ≤ B) : StO B' w v bs hs :=
  ⟨h.row.down (Below.refl _ _) hB, h.len, fun j x b e1 e2 => ⟨(h.at' j x b e1 e2).1, (h.at' j x b e1 e2).2.down (Below.refl _ _) hB⟩, h.far, h.apart⟩
theorem BOwn.down' {B T B' : Nat} {w : World} {v : Value} {l : List Bx} {hs : List BxH} (h : BOwn B T w v l hs) (hB : B' ≤ B) : BOwn B' T w v l hs := ⟨h.own.lowerB hB, h.le, h.row, h.its⟩
def SnO (B T : Nat) (w : World) (v : Value) (l : List Bx) : Prop := ∃ hs, BOwn B T w v l hs
theorem SnO.kept {B T B' T' : Nat} {w w' : World} {v : Value} {l : List Bx} (h : SnO B T w v l) (hk : Kept B' T' w w') (hd : T ≤ B' ∨ T' ≤ B) : SnO B T w' v l := h.elim fun hs p => ⟨hs, p.kept hk hd⟩
theorem SnO.later {B T : Nat} {w w' : World} {v : Value} {l : List Bx} (h : SnO B T w v l) (hb : Below w.heap.size w w') : SnO B T w' v l := h.elim fun hs p => ⟨hs, p.later hb⟩
theorem SnO.rd {B T : Nat} {w : World} {v : Value} {l : List Bx} (h : SnO B T w v l) : BRd w v l := h.elim fun _ p => p.rd
theorem SnO.form {B T : Nat} {w : World} {v : Value} {l : List Bx} (h : SnO B T w v l) : ∃ (a : Option Addr) (c : Nat), v = .slice a l.length c := by
  obtain ⟨hs, p⟩ := h
  obtain ⟨a, c, rfl⟩ := p.own.row.form
  exact ⟨a, c, by rw [p.own.len]⟩
theorem Box.keptB {b B T : Nat} {w w' : World} {cs : Array Value} {t : TypeId} (h : Box w b cs t) (hk : Kept B T w w') (hb : b < B ∨ T ≤ b) : Box w' b cs t := (hk.block b h.lt hb).trans h

end Go.Proofs.YtgcnebepklelpaaGreat

/- A list that can be read, appended to one of the call's own. -/
namespace Go.Proofs.YtgcnebepklelpaaGreat
open Go.RowKit

variable {α : Type} {E : Enc α}

theorem run_append_zero {P : Program} {w : World} (base : Nat) (t ty e : TypeId) (i : TypeInfo) (size : Nat) (ht : P.underlying t = some (.slice e)) (hi : P.info? e = some i)
    (v : Value) (n : Nat) (xs : List Value) (hown : w.ownsRow base e size v n xs) (a : Option Addr) (c : Nat) :
    (Builtin.append_ #[t, t] ty #[v, .slice a 0 c]).run P w = .ok v w := by
  rcases hown.2 with ⟨rfl, rfl⟩ | ⟨g, cap, cur, rfl, _, _, hnc, _⟩
  · cases a <;> simp [Builtin.append_, run_underlying ht, sizeOf, typeInfo, hi, Builtin.lenOf, Builtin.firstCells, loadCells, loadCellsFrom]
  · cases a <;> simp [Builtin.append_, run_underlying ht, sizeOf, typeInfo, hi, Builtin.lenOf, Builtin.firstCells, hnc, storeCells, loadCells, loadCellsFrom]

theorem run_append_rd {w : World} (ty : TypeId) (B : Nat) (v : Value) (l : List α) (hb : RBuf E B w w v l) (vx : Value) (m : List α) (hx : Rows' E w vx m)
    (hlen : (l.length + m.length) * (E.bytes + 1) ≤ 140737488355328) :
    ∃ v' w', (Builtin.append_ #[E.sty, E.sty] ty #[v, vx]).run Tryz.prog w = .ok v' w' ∧ RBuf E B w' w' v' (l ++ m) ∧ w.grownBy w' v.ownBlock ∧ (v'.ownBlock = v.ownBlock ∨ v'.ownBlock = some w.heap.size) := by
  obtain ⟨i0, hi, hz0, hz1, hz2⟩ := info_parts E.info
  have e0 : (l.length + m.length) * (E.bytes + 1) = (l.length + m.length) * E.bytes + (l.length + m.length) := Nat.mul_succ _ _
  rcases hx with ⟨rfl, a, c, rfl⟩ | ⟨g, off, cap, rfl, hc, hg, hcl⟩
  · exact ⟨v, w, run_append_zero (P := Tryz.prog) B E.sty ty E.ty i0 E.sz E.und hi v l.length (E.row l) hb.own a c, by simpa using hb, World.grownBy.refl _ _, .inl rfl⟩
  · obtain ⟨v', w', h1, h2, h3, _, h5⟩ := run_append_own_at (P := Tryz.prog) w B E.sty ty E.ty i0 E.zero E.sz E.bytes E.und hi hz0 hz1 hz2 E.zc E.pos v l.length (E.row l) hb.own ⟨g, off, none⟩ m.length cap (E.row m) (E.row_length m)
      (fun j u hu => by
        have hjl : j < m.length * E.sz := by have := (List.getElem?_eq_some_iff.1 hu).1; rwa [E.row_length] at this
        have hp := E.pos
        have hq : j / E.sz < m.length := Nat.div_lt_of_lt_mul (by rw [Nat.mul_comm]; exact hjl)
        have hr : j % E.sz < E.sz := Nat.mod_lt _ hp
        have hj : j / E.sz * E.sz + j % E.sz = j := Nat.div_add_mod' j E.sz
        have hgq : m[j / E.sz]? = some m[j / E.sz] := List.getElem?_eq_getElem hq
        have h6 := E.row_at m (j / E.sz) _ hgq (j % E.sz) hr
        rw [hj, hu] at h6
        have h7 := hcl (j / E.sz) _ hgq (j % E.sz) u h6.symm
        rw [Nat.add_assoc, hj] at h7
        rw [Addr.add_lit]
        exact h7) (E.row_one' m) (by unfold maxLen; omega) (by omega) hb.le
    refine ⟨v', w', h1, ⟨?_, Below.refl _ _, Nat.le_trans hb.le h3.size⟩, h3, h5⟩
    rw [List.length_append, E.row_append]
    exact h2

theorem wp_append_rd {w : World} {o : Oper} {a : Act} {K : Act → World → Prop} {Q : Exit → Act → World → Prop} (s x : Operand) (E : Enc α)
    (ho : o.op = .call { callee := .builtin .append, args := #[s, x], argTypes := #[E.sty, E.sty] })
    (B : Nat) (v : Value) (l : List α) (hs : a.eval s = v) (hb : RBuf E B w w v l) (vx : Value) (m : List α) (hxv : a.eval x = vx) (hx : Rows' E w vx m)
    (hlen : (l.length + m.length) * (E.bytes + 1) ≤ 140737488355328)
    (h : ∀ v' w', RBuf E B w' w' v' (l ++ m) → w.grownBy w' v.ownBlock → (v'.ownBlock = v.ownBlock ∨ v'.ownBlock = some w.heap.size) → K (a.put o.dst v') w') : o.wp Tryz.prog a w K Q := by
  obtain ⟨v', w', hr, h2, h3, h4⟩ := run_append_rd o.type B v l hb vx m hx hlen
  unfold Oper.wp execOp
  simp only [ho, resolve, invoke, builtin, Sem.run_bind, Sem.run_pure, Result.andThen_ok, List.map_toArray, List.map_cons, List.map_nil, hs, hxv, hr]
  exact h v' w' h2 h3 h4

theorem wpList_append_rd {w : World} {ops : Array Oper} {rest : List Oper} {o : Oper} {a : Act} {Q : Exit → Act → World → Prop} (hgd : o.guard = none) (s x : Operand) (E : Enc α)
    (ho : o.op = .call { callee := .builtin .append, args := #[s, x], argTypes := #[E.sty, E.sty] })
    (B : Nat) (v : Value) (l : List α) (hs : a.eval s = v) (hb : RBuf E B w w v l) (vx : Value) (m : List α) (hxv : a.eval x = vx) (hx : Rows' E w vx m)
    (hlen : (l.length + m.length) * (E.bytes + 1) ≤ 140737488355328)
    (h : ∀ v' w', RBuf E B w' w' v' (l ++ m) → w.grownBy w' v.ownBlock → (v'.ownBlock = v.ownBlock ∨ v'.ownBlock = some w.heap.size) → wpList Tryz.prog ops Q rest (a.put o.dst v') w') : wpList Tryz.prog ops Q (o :: rest) a w :=
  wpList_plain hgd fun _ hK => wp_append_rd s x E ho B v l hs hb vx m hxv hx hlen fun v' w' h2 h3 h4 => hK _ _ (h v' w' h2 h3 h4)

end Go.Proofs.YtgcnebepklelpaaGreat

/- How bools lie in memory. -/
namespace Go.Proofs.YtgcnebepklelpaaGreat
open Go.RowKit


end Go.Proofs.YtgcnebepklelpaaGreat

/- Without of either side: the items of which drop is not so, in order. -/
namespace Go.Proofs.YtgcnebepklelpaaGreat
open Go.RowKit

theorem setCell_same {w : World} {g i : Nat} {v : Value} (h : w.cell? ⟨g, i, none⟩ = some v) : w.setCell ⟨g, i, none⟩ v = w := by
  have : w.heap.modify g (fun
      | .cells c elem frozen => .cells (if (none : Option Nat).isSome then c else c.setIfInBounds i v) elem frozen
      | o => o) = w.heap := by
    apply Array.ext_getElem?
    intro k
    rw [Array.getElem?_modify]
    by_cases hk : g = k
    · subst hk
      rw [if_pos rfl]
      unfold World.cell? at h
      cases ho : w.heap[g]? with
      | none => rfl
      | some o =>
        rw [ho] at h
        cases o <;> simp_all
        rename_i c _ _
        apply Array.ext_getElem?
        intro j
        rw [Array.getElem?_setIfInBounds]
        by_cases hj : i = j
        · subst hj; simp_all; exact (Array.getElem?_eq_some_iff.1 h).1
        · simp [hj]
    · rw [if_neg hk]
  show { w with heap := _ } = w
  exact congrArg (fun hp => { w with heap := hp }) this

theorem Box.set9n {w : World} {b : Nat} {u0 u1 u2 u3 u4 u5 u6 u7 u8 : Value} {t : TypeId} (h : Box w b #[u0, u1, u2, u3, u4, u5, u6, u7, u8] t) (v0 v1 v2 v3 v4 v5 v6 v7 v8 : Value) : Box (((((((((w.setCell ⟨b, 0, none⟩ v0).setCell ⟨b, 1, none⟩ v1).setCell ⟨b, 2, none⟩ v2).setCell ⟨b, 3, none⟩ v3).setCell ⟨b, 4, none⟩ v4).setCell ⟨b, 5, none⟩ v5).setCell ⟨b, 6, none⟩ v6).setCell ⟨b, 7, none⟩ v7).setCell ⟨b, 8, none⟩ v8) b #[v0, v1, v2, v3, v4, v5, v6, v7, v8] t := by
  have h0 : Box (w.setCell ⟨b, 0, none⟩ v0) b #[v0, u1, u2, u3, u4, u5, u6, u7, u8] t := h.set 0 v0
  have h1 : Box ((w.setCell ⟨b, 0, none⟩ v0).setCell ⟨b, 1, none⟩ v1) b #[v0, v1, u2, u3, u4, u5, u6, u7, u8] t := h0.set 1 v1
  have h2 : Box (((w.setCell ⟨b, 0, none⟩ v0).setCell ⟨b, 1, none⟩ v1).setCell ⟨b, 2, none⟩ v2) b #[v0, v1, v2, u3, u4, u5, u6, u7, u8] t := h1.set 2 v2
  have h3 : Box ((((w.setCell ⟨b, 0, none⟩ v0).setCell ⟨b, 1, none⟩ v1).setCell ⟨b, 2, none⟩ v2).setCell ⟨b, 3, none⟩ v3) b #[v0, v1, v2, v3, u4, u5, u6, u7, u8] t := h2.set 3 v3
  have h4 : Box (((((w.setCell ⟨b, 0, none⟩ v0).setCell ⟨b, 1, none⟩ v1).setCell ⟨b, 2, none⟩ v2).setCell ⟨b, 3, none⟩ v3).setCell ⟨b, 4, none⟩ v4) b #[v0, v1, v2, v3, v4, u5, u6, u7, u8] t := h3.set 4 v4
  have h5 : Box ((((((w.setCell ⟨b, 0, none⟩ v0).setCell ⟨b, 1, none⟩ v1).setCell ⟨b, 2, none⟩ v2).setCell ⟨b, 3, none⟩ v3).setCell ⟨b, 4, none⟩ v4).setCell ⟨b, 5, none⟩ v5) b #[v0, v1, v2, v3, v4, v5, u6, u7, u8] t := h4.set 5 v5
  have h6 : Box (((((((w.setCell ⟨b, 0, none⟩ v0).setCell ⟨b, 1, none⟩ v1).setCell ⟨b, 2, none⟩ v2).setCell ⟨b, 3, none⟩ v3).setCell ⟨b, 4, none⟩ v4).setCell ⟨b, 5, none⟩ v5).setCell ⟨b, 6, none⟩ v6) b #[v0, v1, v2, v3, v4, v5, v6, u7, u8] t := h5.set 6 v6
  have h7 : Box ((((((((w.setCell ⟨b, 0, none⟩ v0).setCell ⟨b, 1, none⟩ v1).setCell ⟨b, 2, none⟩ v2).setCell ⟨b, 3, none⟩ v3).setCell ⟨b, 4, none⟩ v4).setCell ⟨b, 5, none⟩ v5).setCell ⟨b, 6, none⟩ v6).setCell ⟨b, 7, none⟩ v7) b #[v0, v1, v2, v3, v4, v5, v6, v7, u8] t := h6.set 7 v7
  have h8 : Box (((((((((w.setCell ⟨b, 0, none⟩ v0).setCell ⟨b, 1, none⟩ v1).setCell ⟨b, 2, none⟩ v2).setCell ⟨b, 3, none⟩ v3).setCell ⟨b, 4, none⟩ v4).setCell ⟨b, 5, none⟩ v5).setCell ⟨b, 6, none⟩ v6).setCell ⟨b, 7, none⟩ v7).setCell ⟨b, 8, none⟩ v8) b #[v0, v1, v2, v3, v4, v5, v6, v7, v8] t := h7.set 8 v8
  exact h8

set_option maxRecDepth 100000 in
set_option maxHeartbeats 4000000 in
theorem copyItem_any (sq : Int) (r : Rc) (w : World) (hu : r.user.size ≤ 281474976710656) (hn : r.name.size ≤ 281474976710656) (ht : r.text.size ≤ 281474976710656) :
    Calls Tryz.prog 70 #[itV sq r] w fun e w' => e = .returned (itV sq r) ∧ Below w.heap.size w w' := by
  unfold itV
  have X1 := (Box.new w #[.int .i64 sq, .int .i64 r.kind, .int .i64 r.valid, .int .i64 r.uid, .int .i64 r.next, .int .i64 r.flags, .string r.user, .string r.name, .string r.text] 69).later (belNew _ (.cells #[.int .i64 0, .int .i64 0, .int .i64 0, .int .i64 0, .int .i64 0, .int .i64 0, .string ⟨#[]⟩, .string ⟨#[]⟩, .string ⟨#[]⟩] 69))
  have X2 : Box ((w.alloc (.cells #[.int .i64 sq, .int .i64 r.kind, .int .i64 r.valid, .int .i64 r.uid, .int .i64 r.next, .int .i64 r.flags, .string r.user, .string r.name, .string r.text] 69)).alloc (.cells #[.int .i64 0, .int .i64 0, .int .i64 0, .int .i64 0, .int .i64 0, .int .i64 0, .string ⟨#[]⟩, .string ⟨#[]⟩, .string ⟨#[]⟩] 69)) (w.heap.size + 1) #[.int .i64 0, .int .i64 0, .int .i64 0, .int .i64 0, .int .i64 0, .int .i64 0, .string ⟨#[]⟩, .string ⟨#[]⟩, .string ⟨#[]⟩] 69 := by
    have := Box.new (w.alloc (.cells #[.int .i64 sq, .int .i64 r.kind, .int .i64 r.valid, .int .i64 r.uid, .int .i64 r.next, .int .i64 r.flags, .string r.user, .string r.name, .string r.text] 69)) #[.int .i64 0, .int .i64 0, .int .i64 0, .int .i64 0, .int .i64 0, .int .i64 0, .string ⟨#[]⟩, .string ⟨#[]⟩, .string ⟨#[]⟩] 69
    rwa [show (w.alloc (.cells #[.int .i64 sq, .int .i64 r.kind, .int .i64 r.valid, .int .i64 r.uid, .int .i64 r.next, .int .i64 r.flags, .string r.user, .string r.name, .string r.text] 69)).heap.size = w.heap.size + 1 from by simp] at this
  have b1 : Below w.heap.size w ((w.alloc (.cells #[.int .i64 sq, .int .i64 r.kind, .int .i64 r.valid, .int .i64 r.uid, .int .i64 r.next, .int .i64 r.flags, .string r.user, .string r.name, .string r.text] 69)).alloc (.cells #[.int .i64 0, .int .i64 0, .int .i64 0, .int .i64 0, .int .i64 0, .int .i64 0, .string ⟨#[]⟩, .string ⟨#[]⟩, .string ⟨#[]⟩] 69)) := ((Below.refl _ _).alloc (Nat.le_refl _) _).alloc (by simp) _
  go_enter Tryz.func70, Tryz.ntmps70
  go_upto_region 1 with fail
  generalize (w.alloc (.cells #[.int .i64 sq, .int .i64 r.kind, .int .i64 r.valid, .int .i64 r.uid, .int .i64 r.next, .int .i64 r.flags, .string r.user, .string r.name, .string r.text] 69)).alloc (.cells #[.int .i64 0, .int .i64 0, .int .i64 0, .int .i64 0, .int .i64 0, .int .i64 0, .string ⟨#[]⟩, .string ⟨#[]⟩, .string ⟨#[]⟩] 69) = w1 at X1 X2 b1 ⊢
  have H1 : Hid (∀ x, Below w1.heap.size w1 x → Box x w.heap.size #[.int .i64 sq, .int .i64 r.kind, .int .i64 r.valid, .int .i64 r.uid, .int .i64 r.next, .int .i64 r.flags, .string r.user, .string r.name, .string r.text] 69 ∧ Box x (w.heap.size + 1) #[.int .i64 0, .int .i64 0, .int .i64 0, .int .i64 0, .int .i64 0, .int .i64 0, .string ⟨#[]⟩, .string ⟨#[]⟩, .string ⟨#[]⟩] 69 ∧ Below w.heap.size w x) := fun x hx => ⟨X1.later hx, X2.later hx, b1.trans (hx.mono b1.size)⟩
  clear X1 X2 b1
  have c6 := (H1.out _ (Below.refl _ _)).1.cell 6 (.string r.user) rfl
  go_wp2_with fail
  clear c6
  refine (clone_any _ _ hu).mono ?_
  rintro e w2 ⟨rfl, k2⟩
  have c6 := (H1.out _ k2).1.cell 6 (.string r.user) rfl
  have f6 := (H1.out _ k2).1.loose 6
  go_upto_region 2 with fail
  rw [setCell_same c6]
  clear c6 f6
  have c7 := (H1.out _ k2).1.cell 7 (.string r.name) rfl
  go_wp2_with fail
  clear c7
  refine (clone_any _ _ hn).mono ?_
  rintro e w3 ⟨rfl, k3⟩
  have j3 := k2.trans (k3.mono k2.size)
  have c7 := (H1.out _ j3).1.cell 7 (.string r.name) rfl
  have f7 := (H1.out _ j3).1.loose 7
  go_upto_region 3 with fail
  rw [setCell_same c7]
  clear c7 f7 k2 k3
  have c8 := (H1.out _ j3).1.cell 8 (.string r.text) rfl
  go_wp2_with fail
  clear c8
  refine (clone_any _ _ ht).mono ?_
  rintro e w4 ⟨rfl, k4⟩
  have j4 := j3.trans (k4.mono j3.size)
  have c8 := (H1.out _ j4).1.cell 8 (.string r.text) rfl
  have f8 := (H1.out _ j4).1.loose 8
  go_upto_region 4 with fail
  rw [setCell_same c8]
  clear c8 f8 j3 k4
  obtain ⟨X1, X2, bE⟩ := H1.out _ j4
  obtain ⟨q0, q1, q2, q3, q4, q5, q6, q7, q8, _⟩ := X1.nine
  obtain ⟨z0, z1, z2, z3, z4, z5, z6, z7, z8, f0, f1, f2, f3, f4, f5, f6, f7, f8⟩ := X2.nine
  have X9 : Box (((((((((w4.setCell ⟨w.heap.size + 1, 0, none⟩ (.int .i64 sq)).setCell ⟨w.heap.size + 1, 1, none⟩ (.int .i64 r.kind)).setCell ⟨w.heap.size + 1, 2, none⟩ (.int .i64 r.valid)).setCell ⟨w.heap.size + 1, 3, none⟩ (.int .i64 r.uid)).setCell ⟨w.heap.size + 1, 4, none⟩ (.int .i64 r.next)).setCell ⟨w.heap.size + 1, 5, none⟩ (.int .i64 r.flags)).setCell ⟨w.heap.size + 1, 6, none⟩ (.string r.user)).setCell ⟨w.heap.size + 1, 7, none⟩ (.string r.name)).setCell ⟨w.heap.size + 1, 8, none⟩ (.string r.text)) (w.heap.size + 1) #[.int .i64 sq, .int .i64 r.kind, .int .i64 r.valid, .int .i64 r.uid, .int .i64 r.next, .int .i64 r.flags, .string r.user, .string r.name, .string r.text] 69 := X2.set9n _ _ _ _ _ _ _ _ _
  have B9 := Lib.hid (below_set9 bE (show w.heap.size ≤ w.heap.size + 1 by omega) (.int .i64 sq) (.int .i64 r.kind) (.int .i64 r.valid) (.int .i64 r.uid) (.int .i64 r.next) (.int .i64 r.flags) (.string r.user) (.string r.name) (.string r.text))
  obtain ⟨y0, y1, y2, y3, y4, y5, y6, y7, y8, _⟩ := X9.nine
  clear X1 X2 X9 bE j4 H1
  go_wp2
  refine bodyPost_ret (v := .agg #[.int .i64 sq, .int .i64 r.kind, .int .i64 r.valid, .int .i64 r.uid, .int .i64 r.next, .int .i64 r.flags, .string r.user, .string r.name, .string r.text]) (by simp [results, Tryz.results70, go_sem, y0, y1, y2, y3, y4, y5, y6, y7, y8]) rfl ⟨rfl, B9.out⟩


end Go.Proofs.YtgcnebepklelpaaGreat

/- ItemsOf of both. -/
namespace Go.Proofs.YtgcnebepklelpaaGreat
open Go.RowKit

def its : List Sg → List Itm
  | [] => []
  | s :: u => s.items ++ its u
theorem its_append : ∀ (u v : List Sg), its (u ++ v) = its u ++ its v
  | [], v => rfl
  | s :: u, v => by simp [its, its_append u v]
theorem its_take {u : List Sg} {i : Nat} {s : Sg} (h : u[i]? = some s) : its (u.take (i + 1)) = its (u.take i) ++ s.items := by
  rw [List.take_add_one, h, its_append]; simp [its]
theorem its_len : ∀ u : List Sg, (its u).length = gIts u
  | [] => rfl
  | s :: u => by simp [its, gIts, its_len u]
theorem gIts_take_le (u : List Sg) (i : Nat) : gIts (u.take i) ≤ gIts u := by
  have := gIts_append (u.take i) (u.drop i)
  rw [List.take_append_drop] at this; omega

set_option maxRecDepth 100000 in
theorem cloneI_any (l : List Itm) (v : Value) (w : World) (h : Rows' itE w v l) (hl : l.length ≤ 1073741824) :
    Calls Tryz.prog 69 #[v] w fun e w' => ∃ v', e = .returned v' ∧ RBuf itE w.heap.size w w' v' l := by
  have q : ∀ (w : World) (a : Option Addr) (n c n' c' : Nat), (binOp .eql 54 (.slice a n c) (.slice none n' c')).run Tryz.prog w = .ok (.bool a.isNone) w := fun w a n c n' c' => Lib.run_eql_slice_nil w _ _ a n c n' c' Tryz.underlying54
  have hv : ∃ (a : Option Addr) (c : Nat), v = .slice a l.length c ∧ (a = none → l = []) := by
    rcases h with ⟨rfl, a, c, rfl⟩ | ⟨g, off, cap, rfl, _⟩
    · exact ⟨a, c, rfl, fun _ => rfl⟩
    · exact ⟨_, _, rfl, fun e => by cases e⟩
  obtain ⟨a, c, rfl, hn⟩ := hv
  cases a with
  | none =>
    obtain rfl := hn rfl
    clear h hn
    go_enter Tryz.func69, Tryz.ntmps69
    go_wp2
    go_ret
    exact ⟨_, rfl, RBuf.nil itE w⟩
  | some p =>
    clear hn
    have hb := (RBuf.fresh itE w).here
    have hx := Lib.hid (h.later (belNew w (.cells #[] itE.ty)))
    clear h
    go_enter Tryz.func69, Tryz.ntmps69
    go_wp2_with (at_builtin; refine wpList_append_rd rfl _ _ itE rfl w.heap.size _ [] rfl hb _ l rfl hx.out (by simp [itE]; omega) ?_; intro v1 w1 r1 g1 _; obtain ⟨a1, c1, rfl⟩ := r1.form)
    go_ret
    rw [List.nil_append] at r1
    exact ⟨_, rfl, ⟨r1.own, ((Below.refl w.heap.size w).alloc (Nat.le_refl _) _).grown g1 (by simp) (fun k hk => by have : w.heap.size = k := Option.some.inj hk; omega), r1.le⟩⟩

set_option maxRecDepth 100000 in
set_option maxHeartbeats 4000000 in
theorem copyItems_any (l : List Itm) (v : Value) (w : World) (h : Rows' itE w v l) (hl : l.length ≤ 1048576) (hz : ∀ x ∈ l, x.2.user.size ≤ 1048576 ∧ x.2.name.size ≤ 1048576 ∧ x.2.text.size ≤ 1048576) :
    Calls Tryz.prog 44 #[v] w fun e w' => ∃ v', e = .returned v' ∧ RBuf itE w.heap.size w w' v' l := by
  have HC := Lib.hid (cloneI_any l v w h (by omega))
  have HZ := Lib.hid hz
  obtain ⟨ad, cap, rfl, _⟩ := h.items
  clear h hz
  go_enter Tryz.func44, Tryz.ntmps44
  go_wp2_with fail
  refine HC.out.mono ?_
  rintro e w1 ⟨v1, rfl, R1⟩
  obtain ⟨a1, c1, rfl⟩ := R1.form
  clear HC
  go_wp2
  go_loopw [9] (fun iv wr => ∃ i : Nat, i ≤ l.length ∧ iv = .int .i64 (i : Int) ∧ RBuf itE w.heap.size w wr (.slice a1 l.length c1) l) (fun iv _ => l.length - (intOf iv).toNat)
  case atStart => exact ⟨0, by omega, rfl, R1⟩
  case round =>
    clear R1
    obtain ⟨i, hi, rfl, I⟩ := hrel
    by_cases hlt : i < l.length
    · obtain ⟨x, hgx⟩ : ∃ x, l[i]? = some x := ⟨_, List.getElem?_eq_getElem hlt⟩
      obtain ⟨zu, zn, zt⟩ := HZ.out _ (List.mem_of_getElem? hgx)
      have HIT := Lib.hid I
      rcases I.own.2 with ⟨h1, h2⟩ | ⟨g, cp, cur, hv, _⟩
      · omega
      · obtain ⟨rfl, rfl⟩ : a1 = some ⟨g, 0, none⟩ ∧ c1 = cp := by simpa using hv
        clear hv
        have hi0 : (0 : Int) ≤ (i : Int) := by omega
        have hi1 : (i : Int) < (l.length : Int) := by omega
        have HF : Hid (∀ X, Below wr.heap.size wr X → RBuf itE w.heap.size w X (.slice (some ⟨g, 0, none⟩) l.length c1) l) := fun X hX => I.later hX
        obtain ⟨sq, r⟩ := x
        simp only at zu zn zt
        have HCI := Lib.hid (copyItem_any sq r wr (by omega) (by omega) (by omega))
        unfold itV at HCI
        have p0 := I.cell rfl i _ hgx 0 _ rfl
        have p1 := I.cell rfl i _ hgx 1 _ rfl
        have p2 := I.cell rfl i _ hgx 2 _ rfl
        have p3 := I.cell rfl i _ hgx 3 _ rfl
        have p4 := I.cell rfl i _ hgx 4 _ rfl
        have p5 := I.cell rfl i _ hgx 5 _ rfl
        have p6 := I.cell rfl i _ hgx 6 _ rfl
        have p7 := I.cell rfl i _ hgx 7 _ rfl
        have p8 := I.cell rfl i _ hgx 8 _ rfl
        change wr.cell? ⟨g, i * 9, none⟩ = some (.int .i64 sq) at p0
        change wr.cell? ⟨g, i * 9 + 1, none⟩ = some (.int .i64 r.kind) at p1
        change wr.cell? ⟨g, i * 9 + 2, none⟩ = some (.int .i64 r.valid) at p2
        change wr.cell? ⟨g, i * 9 + 3, none⟩ = some (.int .i64 r.uid) at p3
        change wr.cell? ⟨g, i * 9 + 4, none⟩ = some (.int .i64 r.next) at p4
        change wr.cell? ⟨g, i * 9 + 5, none⟩ = some (.int .i64 r.flags) at p5
        change wr.cell? ⟨g, i * 9 + 6, none⟩ = some (.string r.user) at p6
        change wr.cell? ⟨g, i * 9 + 7, none⟩ = some (.string r.name) at p7
        change wr.cell? ⟨g, i * 9 + 8, none⟩ = some (.string r.text) at p8
        have HGX := Lib.hid hgx
        clear hgx I HIT
        go_wp2_with fail
        clear p0 p1 p2 p3 p4 p5 p6 p7 p8
        refine HCI.out.mono ?_
        rintro e w2 ⟨rfl, k2⟩
        have I2 := HF.out _ k2
        have p0 := I2.cell rfl i _ HGX.out 0 _ rfl
        have p1 := I2.cell rfl i _ HGX.out 1 _ rfl
        have p2 := I2.cell rfl i _ HGX.out 2 _ rfl
        have p3 := I2.cell rfl i _ HGX.out 3 _ rfl
        have p4 := I2.cell rfl i _ HGX.out 4 _ rfl
        have p5 := I2.cell rfl i _ HGX.out 5 _ rfl
        have p6 := I2.cell rfl i _ HGX.out 6 _ rfl
        have p7 := I2.cell rfl i _ HGX.out 7 _ rfl
        have p8 := I2.cell rfl i _ HGX.out 8 _ rfl
        change w2.cell? ⟨g, i * 9, none⟩ = some (.int .i64 sq) at p0
        change w2.cell? ⟨g, i * 9 + 1, none⟩ = some (.int .i64 r.kind) at p1
        change w2.cell? ⟨g, i * 9 + 2, none⟩ = some (.int .i64 r.valid) at p2
        change w2.cell? ⟨g, i * 9 + 3, none⟩ = some (.int .i64 r.uid) at p3
        change w2.cell? ⟨g, i * 9 + 4, none⟩ = some (.int .i64 r.next) at p4
        change w2.cell? ⟨g, i * 9 + 5, none⟩ = some (.int .i64 r.flags) at p5
        change w2.cell? ⟨g, i * 9 + 6, none⟩ = some (.string r.user) at p6
        change w2.cell? ⟨g, i * 9 + 7, none⟩ = some (.string r.name) at p7
        change w2.cell? ⟨g, i * 9 + 8, none⟩ = some (.string r.text) at p8
        have f0 := I2.loose (i * 9)
        have f1 := I2.loose (i * 9 + 1)
        have f2 := I2.loose (i * 9 + 2)
        have f3 := I2.loose (i * 9 + 3)
        have f4 := I2.loose (i * 9 + 4)
        have f5 := I2.loose (i * 9 + 5)
        have f6 := I2.loose (i * 9 + 6)
        have f7 := I2.loose (i * 9 + 7)
        have f8 := I2.loose (i * 9 + 8)
        have s0 := setCell_same p0
        have s1 := setCell_same p1
        have s2 := setCell_same p2
        have s3 := setCell_same p3
        have s4 := setCell_same p4
        have s5 := setCell_same p5
        have s6 := setCell_same p6
        have s7 := setCell_same p7
        have s8 := setCell_same p8
        have HI2 := Lib.hid I2
        clear I2 HF HCI k2
        go_wp2
        exact ⟨⟨i + 1, by omega, by simp, by first | exact HI2.out | (simp only [s0, s1, s2, s3, s4, s5, s6, s7, s8]; exact HI2.out)⟩, by first | omega | (simp [intOf]; omega)⟩
    · go_wp2
      go_ret
      exact ⟨_, rfl, I⟩

set_option maxRecDepth 100000 in
set_option maxHeartbeats 4000000 in
theorem specItemsOf_any (L : Lg) (v : Value) (w : World) (h : LRd w v L) (hl : L.used.length + gIts L.used ≤ 1048576) :
    Calls Tryz.prog 16 #[v] w fun e w' => ∃ v', e = .returned v' ∧ RBuf itE w.heap.size w w' v' (its L.used) := by
  obtain ⟨va, vb, vu, rfl, _, hu⟩ := h
  obtain ⟨ad, cap, rfl, hrow⟩ := hu.segs
  have HR : Hid _ := hrow
  clear hu hrow
  have b0 := belNew w (.cells #[va, vb, .int .i64 L.segs, .slice ad L.used.length cap, .int .i64 L.ng, .int .i64 L.ns, .int .i64 L.st, .int .i64 L.nv] 42)
  have q0 := Box.new w #[va, vb, .int .i64 L.segs, .slice ad L.used.length cap, .int .i64 L.ng, .int .i64 L.ns, .int .i64 L.st, .int .i64 L.nv] 42
  obtain ⟨W, hW⟩ : ∃ W, w.alloc (.cells #[va, vb, .int .i64 L.segs, .slice ad L.used.length cap, .int .i64 L.ng, .int .i64 L.ns, .int .i64 L.st, .int .i64 L.nv] 42) = W := ⟨_, rfl⟩
  rw [hW] at q0 b0
  have HW := Lib.hid hW
  clear hW
  have HGL := Lib.hid (fun i => gIts_take_le L.used i)
  obtain ⟨n, hn⟩ : ∃ n, L.used.length = n := ⟨_, rfl⟩
  rw [hn] at hl q0 HW ⊢
  have HN := Lib.hid hn
  clear hn
  have I0 := RBuf.fresh itE W
  go_enter Tryz.func16, Tryz.ntmps16
  go_upto_region 1 with fail
  rw [HW.out]
  have HQ := Lib.hid q0
  have HB0 := Lib.hid b0
  clear q0 b0 HW
  go_wp2
  go_loopw [3, 4] (fun v iv wr => ∃ k : Nat, k ≤ n ∧ iv = .int .i64 (k : Int) ∧ RBuf itE W.heap.size W wr v (its (L.used.take k))) (fun _ iv _ => n - (intOf iv).toNat)
  case atStart => exact ⟨0, by omega, rfl, I0⟩
  case round =>
    clear I0
    obtain ⟨k, hk, rfl, I⟩ := hrel
    obtain ⟨c0, c1, c2, c3, c4, c5, c6, c7, _⟩ := (HQ.out.later I.bel).eightL
    by_cases hlt : k < n
    · obtain ⟨s, hgs⟩ : ∃ s, L.used[k]? = some s := ⟨_, List.getElem?_eq_getElem (by rw [HN.out]; exact hlt)⟩
      have bW := HB0.out.trans (I.bel.mono HB0.out.size)
      obtain ⟨ga, oa, am, nm, cm, rfl, a0, a1, a2, a4, rm⟩ := HR.out _ bW k s hgs
      have HT := Lib.hid (its_take hgs)
      have hlen : (its (L.used.take k)).length + s.items.length ≤ 1048576 := by
        have h1 := HGL.out (k + 1)
        rw [← its_len, HT.out, List.length_append] at h1
        omega
      obtain ⟨us, hus⟩ : ∃ us, its (L.used.take k) = us := ⟨_, rfl⟩
      rw [hus] at I hlen HT
      have hi0 : (0 : Int) ≤ (k : Int) := by omega
      have hi1 : (k : Int) < (n : Int) := by omega
      have HM := Lib.hid (rm.later bW)
      have HI := Lib.hid I
      obtain ⟨a3, p3, rfl⟩ := I.form
      clear hgs hus rm I
      go_wp2_with (at_builtin; refine wpList_append_rd rfl _ _ itE rfl W.heap.size _ us rfl HI.out.here _ s.items rfl HM.out (by show _ * 97 ≤ _; omega) ?_; intro v6 w6 r6 g6 at6)
      exact ⟨⟨k + 1, by omega, by simp, by rw [HT.out]; exact ⟨r6.own, HI.out.bel.grown g6 HI.out.le (fun q hq => (HI.out.own.lt q hq).1), r6.le⟩⟩, by first | omega | (simp [intOf]; omega)⟩
    · have HE : Hid (its L.used = its (L.used.take k)) := by show _ = _; rw [List.take_of_length_le (by rw [HN.out]; omega)]
      have HI := Lib.hid I
      clear I
      go_wp2
      go_ret
      exact ⟨_, rfl, by rw [HE.out]; exact HI.out.down (HB0.out.trans (HI.out.bel.mono HB0.out.size)) HB0.out.size⟩

set_option maxRecDepth 100000 in
set_option maxHeartbeats 4000000 in
theorem implItemsOf_any (L : Lg) (v : Value) (w : World) (h : LRd w v L) (hl : L.used.length + gIts L.used ≤ 1048576) (hz : ∀ b ∈ L.used, ∀ x ∈ b.items, x.2.user.size ≤ 1048576 ∧ x.2.name.size ≤ 1048576 ∧ x.2.text.size ≤ 1048576) :
    Calls Tryz.prog 20 #[v] w fun e w' => ∃ v', e = .returned v' ∧ RBuf itE w.heap.size w w' v' (its L.used) := by
  obtain ⟨va, vb, vu, rfl, _, hu⟩ := h
  obtain ⟨ad, cap, rfl, hrow⟩ := hu.segs
  have HR : Hid _ := hrow
  have HZ := Lib.hid hz
  clear hu hrow hz
  have b0 := belNew w (.cells #[va, vb, .int .i64 L.segs, .slice ad L.used.length cap, .int .i64 L.ng, .int .i64 L.ns, .int .i64 L.st, .int .i64 L.nv] 42)
  obtain ⟨W, hW⟩ : ∃ W, w.alloc (.cells #[va, vb, .int .i64 L.segs, .slice ad L.used.length cap, .int .i64 L.ng, .int .i64 L.ns, .int .i64 L.st, .int .i64 L.nv] 42) = W := ⟨_, rfl⟩
  have q0 := Box.new w #[va, vb, .int .i64 L.segs, .slice ad L.used.length cap, .int .i64 L.ng, .int .i64 L.ns, .int .i64 L.st, .int .i64 L.nv] 42
  rw [hW] at b0 q0
  have q3 := (q0.later (belNew W (.cells #[] 69))).cell 3 (.slice ad L.used.length cap) rfl
  clear q0
  have HW := Lib.hid hW
  clear hW
  have HGL := Lib.hid (fun i => gIts_take_le L.used i)
  obtain ⟨n, hn⟩ : ∃ n, L.used.length = n := ⟨_, rfl⟩
  rw [hn] at hl HW q3 ⊢
  have HN := Lib.hid hn
  clear hn
  have I0 := RBuf.fresh itE W
  go_enter Tryz.func20, Tryz.ntmps20
  go_upto_region 1 with fail
  rw [HW.out]
  have HB0 := Lib.hid b0
  clear b0 HW
  go_wp2
  clear q3
  go_loopw [3, 10] (fun v iv wr => ∃ k : Nat, k ≤ n ∧ iv = .int .i64 (k : Int) ∧ RBuf itE W.heap.size W wr v (its (L.used.take k))) (fun _ iv _ => n - (intOf iv).toNat)
  case atStart => exact ⟨0, by omega, rfl, I0⟩
  case round =>
    clear I0
    obtain ⟨k, hk, rfl, I⟩ := hrel
    by_cases hlt : k < n
    · obtain ⟨s, hgs⟩ : ∃ s, L.used[k]? = some s := ⟨_, List.getElem?_eq_getElem (by rw [HN.out]; exact hlt)⟩
      have bW := HB0.out.trans (I.bel.mono HB0.out.size)
      obtain ⟨ga, oa, am, nm, cm, rfl, a0, a1, a2, a4, rm⟩ := HR.out _ bW k s hgs
      have HT := Lib.hid (its_take hgs)
      have hlen : (its (L.used.take k)).length + s.items.length ≤ 1048576 := by
        have h1 := HGL.out (k + 1)
        rw [← its_len, HT.out, List.length_append] at h1
        omega
      have hzx := HZ.out s (List.mem_of_getElem? hgs)
      obtain ⟨us, hus⟩ : ∃ us, its (L.used.take k) = us := ⟨_, rfl⟩
      rw [hus] at I hlen HT
      have hi0 : (0 : Int) ≤ (k : Int) := by omega
      have hi1 : (k : Int) < (n : Int) := by omega
      have I4 := I.alloc (.cells #[.int .i64 s.no, .int .i64 s.gen, .int .i64 s.ende, .slice am nm cm] 80)
      have HCP := Lib.hid (copyItems_any s.items (.slice am nm cm) _ (rm.later (bW.alloc bW.size (.cells #[.int .i64 s.no, .int .i64 s.gen, .int .i64 s.ende, .slice am nm cm] 80))) (by omega) hzx)
      obtain ⟨a3, p3, rfl⟩ := I.form
      clear hgs hus rm hzx I
      go_wp2_with fail
      refine HCP.out.mono ?_
      rintro e w5 ⟨v5, rfl, R5⟩
      have I5 := I4.later R5.bel
      have HI := Lib.hid I5
      have HM := Lib.hid R5.rows
      obtain ⟨a5, c5, rfl⟩ := R5.form
      clear I4 I5 R5 HCP a0 a1 a2 a4
      go_wp2_with (at_builtin; refine wpList_append_rd rfl _ _ itE rfl W.heap.size _ us rfl HI.out.here _ s.items rfl HM.out (by show _ * 97 ≤ _; omega) ?_; intro v6 w6 r6 g6 at6)
      exact ⟨⟨k + 1, by omega, by simp, by rw [HT.out]; exact ⟨r6.own, HI.out.bel.grown g6 HI.out.le (fun q hq => (HI.out.own.lt q hq).1), r6.le⟩⟩, by first | omega | (simp [intOf]; omega)⟩
    · have HE : Hid (its L.used = its (L.used.take k)) := by show _ = _; rw [List.take_of_length_le (by rw [HN.out]; omega)]
      have HI := Lib.hid I
      clear I
      go_wp2
      go_ret
      exact ⟨_, rfl, by rw [HE.out]; exact HI.out.down (HB0.out.trans (HI.out.bel.mono HB0.out.size)) HB0.out.size⟩

end Go.Proofs.YtgcnebepklelpaaGreat
