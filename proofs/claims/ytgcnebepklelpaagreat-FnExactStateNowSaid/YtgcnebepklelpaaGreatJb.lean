/- Texts of our own, joined. -/
import Derived.Test.YtgcnebepklelpaaGreatJa
import Derived.Laws.OwnMore
import Derived.WalkKit
import Derived.Laws.BitsAllLaws
import Derived.Laws.Bits128
/- Lists that come in: how great they are (szStringS, szWriteS), and copies of them in memory of the call's own (toStringS, toWriteS, toIntS). -/
namespace Go.Proofs.YtgcnebepklelpaaGreat
open Go.RowKit

def SzR {α : Type} (size : α → Nat) (left : Int) (l : List α) (w : World) (e : Ending) (w' : World) : Prop :=
  ∃ r : Int, e = .returned (.int .i64 r) ∧ Below w.heap.size w w' ∧ r ≤ left ∧ -1 ≤ r ∧ (0 ≤ r → (l.length : Int) ≤ left ∧ ∀ x ∈ l, (size x : Int) ≤ left)

set_option maxRecDepth 100000 in
set_option maxHeartbeats 1000000 in
theorem szStringS_any (l : List ByteArray) (v : Value) (left : Int) (w : World) (hb : Rows' strE w v l) (h0 : 0 ≤ left) (h1 : left ≤ 1048576) (hl : l.length ≤ 9223372036854775807) (hs : ∀ s ∈ l, s.size ≤ 9223372036854775807) :
    Calls Tryz.prog 53 #[v, .int .i64 left] w fun e w' => SzR ByteArray.size left l w e w' := by
  rcases hb.ways with ⟨rfl, a, c, rfl⟩ | ⟨hne, g, off, cap, rfl, hca, hg, hcl⟩
  · clear hb
    go_enter Tryz.func53, Tryz.ntmps53
    go_wp2
    go_loop [1, 5] (fun kv iv => kv = .int .i64 left ∧ iv = .int .i64 0) (fun _ _ => 0)
    case atStart => exact ⟨rfl, rfl⟩
    case round =>
      obtain ⟨rfl, rfl⟩ := hrel
      go_wp2
      go_ret
      exact ⟨left, rfl, Below.refl _ _, by omega, by omega, fun _ => ⟨by simpa using h0, by simp⟩⟩
  · have HC := Lib.hid hcl
    have HS := Lib.hid hs
    clear hcl hb hne hs
    by_cases hbig : left < (l.length : Int)
    · have hn : left - (l.length : Int) < 0 := by omega
      go_enter Tryz.func53, Tryz.ntmps53
      go_wp2
      go_ret
      exact ⟨-1, rfl, Below.refl _ _, by omega, by omega, fun h => by omega⟩
    · have hn : ¬ left - (l.length : Int) < 0 := by omega
      go_enter Tryz.func53, Tryz.ntmps53
      go_wp2
      go_loopw [1, 5] (fun kv iv wr => ∃ (i : Nat) (r : Int), i ≤ l.length ∧ iv = .int .i64 (i : Int) ∧ kv = .int .i64 r ∧ 0 ≤ r ∧ r ≤ left ∧ (∀ x ∈ l.take i, (x.size : Int) ≤ left) ∧ wr = w) (fun _ iv _ => l.length - (intOf iv).toNat)
      case atStart => exact ⟨0, _, by omega, rfl, rfl, by omega, by omega, by simp, rfl⟩
      case round =>
        obtain ⟨i, r, hi, rfl, rfl, hr0, hr1, hall, rfl⟩ := hrel
        by_cases hlt : i < l.length
        · have hat := List.getElem?_eq_getElem hlt
          have hsz := HS.out _ (List.getElem_mem hlt)
          have c0 : wr.cell? ⟨g, off + i, none⟩ = some (.string l[i]) := by
            have := HC.out i _ hat 0 _ rfl
            rw [show strE.sz = 1 from rfl, Nat.mul_one, Nat.add_zero] at this
            exact this
          have htk : l.take (i + 1) = l.take i ++ [l[i]] := List.take_succ_eq_append_getElem hlt
          have HT := Lib.hid htk
          have HA := Lib.hid hall
          clear hat htk hall
          generalize l[i] = t at *
          by_cases hneg : r - (t.size : Int) < 0
          · go_wp2
            go_ret
            exact ⟨-1, rfl, Below.refl _ _, by omega, by omega, fun h => by omega⟩
          · go_wp2
            go_roundw
            case rel => exact ⟨i + 1, r - (t.size : Int), by omega, by go_num, by go_num, by omega, by omega, by
              rw [HT.out]
              intro x hx
              rcases List.mem_append.1 hx with h | h
              · exact HA.out x h
              · simp at h; subst h; omega, trivial⟩
            case measure => simp [intOf]; omega
        · go_wp2
          go_ret
          have : l.take i = l := List.take_of_length_le (by omega)
          rw [this] at hall
          exact ⟨r, rfl, Below.refl _ _, hr1, by omega, fun _ => ⟨by omega, hall⟩⟩

theorem szWrite_any (n : Int) (t : ByteArray) (left : Int) (w : World) (h0 : 0 ≤ left) (h1 : left ≤ 1048576) (hs : t.size ≤ 9223372036854775807) :
    Calls Tryz.prog 78 #[.agg #[.int .i64 n, .string t], .int .i64 left] w fun e w' => e = .returned (.int .i64 (if left - (t.size : Int) < 0 then -1 else left - (t.size : Int))) ∧ Below w.heap.size w w' := by
  by_cases hn : left - (t.size : Int) < 0
  · rw [if_pos hn]
    go_enter Tryz.func78, Tryz.ntmps78
    go_wp2
    go_ret
    exact ⟨rfl, (Below.refl _ _).alloc (Nat.le_refl _) _⟩
  · rw [if_neg hn]
    go_enter Tryz.func78, Tryz.ntmps78
    go_wp2
    go_ret
    exact ⟨rfl, (Below.refl _ _).alloc (Nat.le_refl _) _⟩

set_option maxRecDepth 100000 in
set_option maxHeartbeats 1000000 in
theorem szWriteS_any (l : List Wr) (v : Value) (left : Int) (w : World) (hb : Rows' lwrE w v l) (h0 : 0 ≤ left) (h1 : left ≤ 1048576) (hl : l.length ≤ 9223372036854775807) (hs : ∀ x ∈ l, x.text.size ≤ 9223372036854775807) :
    Calls Tryz.prog 54 #[v, .int .i64 left] w fun e w' => SzR (fun x : Wr => x.text.size) left l w e w' := by
  rcases hb.ways with ⟨rfl, a, c, rfl⟩ | ⟨hne, g, off, cap, rfl, hca, hg, hcl⟩
  · clear hb
    go_enter Tryz.func54, Tryz.ntmps54
    go_wp2
    go_loop [1, 5] (fun kv iv => kv = .int .i64 left ∧ iv = .int .i64 0) (fun _ _ => 0)
    case atStart => exact ⟨rfl, rfl⟩
    case round =>
      obtain ⟨rfl, rfl⟩ := hrel
      go_wp2
      go_ret
      exact ⟨left, rfl, Below.refl _ _, by omega, by omega, fun _ => ⟨by simpa using h0, by simp⟩⟩
  · have HC := Lib.hid hcl
    have HS := Lib.hid hs
    clear hcl hb hne hs
    by_cases hbig : left < (l.length : Int)
    · have hn : left - (l.length : Int) < 0 := by omega
      go_enter Tryz.func54, Tryz.ntmps54
      go_wp2
      go_ret
      exact ⟨-1, rfl, Below.refl _ _, by omega, by omega, fun h => by omega⟩
    · have hn : ¬ left - (l.length : Int) < 0 := by omega
      go_enter Tryz.func54, Tryz.ntmps54
      go_wp2
      go_loopw [1, 5] (fun kv iv wr => ∃ (i : Nat) (r : Int), i ≤ l.length ∧ iv = .int .i64 (i : Int) ∧ kv = .int .i64 r ∧ 0 ≤ r ∧ r ≤ left ∧ (∀ x ∈ l.take i, (x.text.size : Int) ≤ left) ∧ Below w.heap.size w wr) (fun _ iv _ => l.length - (intOf iv).toNat)
      case atStart => exact ⟨0, _, by omega, rfl, rfl, by omega, by omega, by simp, Below.refl _ _⟩
      case round =>
        obtain ⟨i, r, hi, rfl, rfl, hr0, hr1, hall, hbel⟩ := hrel
        by_cases hlt : i < l.length
        · have hat := List.getElem?_eq_getElem hlt
          have hsz := HS.out _ (List.getElem_mem hlt)
          obtain ⟨c0, c1⟩ := wr_cells (E := lwrE) rfl rfl HC.out hg hbel i _ hat
          have htk : l.take (i + 1) = l.take i ++ [l[i]] := List.take_succ_eq_append_getElem hlt
          have HT := Lib.hid htk
          have HA := Lib.hid hall
          clear hat htk hall
          generalize l[i] = x at *
          obtain ⟨n, t⟩ := x
          simp only at c0 c1 hsz
          by_cases hneg : r - (t.size : Int) < 0
          · go_wp2_with (go_at_call 78; refine (szWrite_any n t r _ hr0 (by omega) hsz).mono ?_; rintro e w1 ⟨rfl, hb1⟩; rw [if_pos hneg])
            go_ret
            exact ⟨-1, rfl, hbel.trans (hb1.mono hbel.size), by omega, by omega, fun h => by omega⟩
          · go_wp2_with (go_at_call 78; refine (szWrite_any n t r _ hr0 (by omega) hsz).mono ?_; rintro e w1 ⟨rfl, hb1⟩; rw [if_neg hneg])
            go_roundw
            case rel => exact ⟨i + 1, r - (t.size : Int), by omega, by go_num, by go_num, by omega, by omega, by
              rw [HT.out]
              intro x hx
              rcases List.mem_append.1 hx with h | h
              · exact HA.out x h
              · simp at h; subst h; simp only; omega, hbel.trans (hb1.mono hbel.size)⟩
            case measure => simp [intOf]; omega
        · go_wp2
          go_ret
          have : l.take i = l := List.take_of_length_le (by omega)
          rw [this] at hall
          exact ⟨r, rfl, hbel, hr1, by omega, fun _ => ⟨by omega, hall⟩⟩

theorem toWrite_any (n : Int) (t : ByteArray) (w : World) :
    Calls Tryz.prog 81 #[.agg #[.int .i64 n, .string t]] w fun e w' => e = .returned (.agg #[.int .i64 n, .string t]) ∧ Below w.heap.size w w' := by
  go_enter Tryz.func81, Tryz.ntmps81
  go_wp2
  refine bodyPost_ret (v := .agg #[.int .i64 n, .string t]) (by simp [results, Tryz.results81, go_sem]) rfl ⟨rfl, ?_⟩
  exact (((Below.refl _ _).alloc (Nat.le_refl _) _).alloc (by simp) _).alloc (by simp; omega) _

set_option maxRecDepth 100000 in
set_option maxHeartbeats 1000000 in
theorem toStringS_any (l : List ByteArray) (v : Value) (w : World) (hb : Rows' strE w v l) (hl : l.length ≤ 1048576) :
    Calls Tryz.prog 58 #[v] w fun e w' => ∃ v', e = .returned v' ∧ RBuf strE w.heap.size w w' v' l := by
  obtain ⟨a, cap, rfl⟩ : ∃ (a : Option Addr) (cap : Nat), v = .slice a l.length cap := by
    rcases hb with ⟨rfl, a, c, rfl⟩ | ⟨g, off, c, rfl, _⟩
    · exact ⟨a, c, rfl⟩
    · exact ⟨_, c, rfl⟩
  have HB := Lib.hid hb
  clear hb
  go_enter Tryz.func58, Tryz.ntmps58
  go_wp2_with (at_make; refine wpList_make_rows rfl _ _ strE rfl .i64 .i64 _ _ l.length rfl rfl rfl rfl (by show 17 * l.length ≤ _; omega) ?_; intro w1 hr1 hs1)
  go_loopw [4] (fun iv wr => ∃ i : Nat, i ≤ l.length ∧ iv = .int .i64 (i : Int) ∧ RBuf strE w.heap.size w wr (.slice (some ⟨w.heap.size, 0, none⟩) l.length l.length) (copyTo strE.z0 l i)) (fun iv _ => l.length - (intOf iv).toNat)
  case atStart => exact ⟨0, by omega, rfl, by rw [copyTo_zero]; exact hr1⟩
  case round =>
    obtain ⟨i, hi, rfl, hbr⟩ := hrel
    by_cases hlt : i < l.length
    · obtain ⟨g, off, rfl, hcl⟩ := HB.out.at i hlt
      have hcs := hcl wr hbr.bel 0 _ rfl
      rw [show strE.sz = 1 from rfl, Nat.mul_one, Nat.add_zero] at hcs
      have hi0 : (0 : Int) ≤ (i : Int) := by omega
      have hi1 : (i : Int) < (l.length : Int) := by omega
      have hml := copyTo_length (z := strE.z0) hi
      have hms := copyTo_set (z := strE.z0) hlt
      have hat := copyTo_at (z := strE.z0) hlt
      rw [← hml] at hbr
      have cd : wr.cell? ⟨w.heap.size, i, none⟩ = some (.string strE.z0) := by
        have := hbr.cell rfl i _ hat 0 _ rfl
        rw [show strE.sz = 1 from rfl, Nat.mul_one, Nat.add_zero] at this
        exact this
      have fd := hbr.loose i
      have hst := hbr.stored i _ l[i] hat 0 (by decide) (.string l[i]) rfl
      rw [show strE.sz = 1 from rfl, Nat.mul_one, Nat.add_zero, hms, hml] at hst
      clear hcl hbr hat hml hms
      generalize l[i] = t at *
      go_wp2
      go_roundw
      case rel => exact ⟨i + 1, by omega, by go_num, hst⟩
      case measure => simp [intOf]; omega
    · go_wp2
      go_ret
      rw [copyTo_all (by omega)] at hbr
      exact ⟨_, rfl, hbr⟩

theorem RBuf.put2 {B : Nat} {w0 w : World} {g cap : Nat} {l : List Wr} (h : RBuf wrE B w0 w (.slice (some ⟨g, 0, none⟩) l.length cap) l) (i : Nat) (x : Wr) (hi : l[i]? = some x) (n : Int) (t : ByteArray) :
    RBuf wrE B w0 ((w.setCell ⟨g, i * 2, none⟩ (.int .i64 n)).setCell ⟨g, i * 2 + 1, none⟩ (.string t)) (.slice (some ⟨g, 0, none⟩) l.length cap) (l.set i ⟨n, t⟩) := by
  have hlt : i < l.length := (List.getElem?_eq_some_iff.1 hi).1
  have st0 : RBuf wrE B w0 (w.setCell ⟨g, i * 2, none⟩ (.int .i64 n)) (.slice (some ⟨g, 0, none⟩) l.length cap) (l.set i ⟨n, x.text⟩) :=
    h.stored i _ ⟨n, x.text⟩ hi 0 (by decide) (.int .i64 n) rfl
  have hat1 : (l.set i ⟨n, x.text⟩)[i]? = some ⟨n, x.text⟩ := List.getElem?_set_self hlt
  have hl1 : (l.set i (⟨n, x.text⟩ : Wr)).length = l.length := by simp
  rw [← hl1] at st0
  have st2 := st0.stored i _ ⟨n, t⟩ hat1 1 (by decide) (.string t) rfl
  rw [List.set_set, hl1] at st2
  exact st2

set_option maxRecDepth 100000 in
set_option maxHeartbeats 1000000 in
theorem toWriteS_any (l : List Wr) (v : Value) (w : World) (hb : Rows' lwrE w v l) (hl : l.length ≤ 1048576) :
    Calls Tryz.prog 59 #[v] w fun e w' => ∃ v', e = .returned v' ∧ RBuf wrE w.heap.size w w' v' l := by
  obtain ⟨a, cap, rfl⟩ : ∃ (a : Option Addr) (cap : Nat), v = .slice a l.length cap := by
    rcases hb with ⟨rfl, a, c, rfl⟩ | ⟨g, off, c, rfl, _⟩
    · exact ⟨a, c, rfl⟩
    · exact ⟨_, c, rfl⟩
  have HB := Lib.hid hb
  clear hb
  go_enter Tryz.func59, Tryz.ntmps59
  go_wp2_with (at_make; refine wpList_make_rows rfl _ _ wrE rfl .i64 .i64 _ _ l.length rfl rfl rfl rfl (by show 25 * l.length ≤ _; omega) ?_; intro w1 hr1 hs1)
  go_loopw [4] (fun iv wr => ∃ i : Nat, i ≤ l.length ∧ iv = .int .i64 (i : Int) ∧ RBuf wrE w.heap.size w wr (.slice (some ⟨w.heap.size, 0, none⟩) l.length l.length) (copyTo wrE.z0 l i)) (fun iv _ => l.length - (intOf iv).toNat)
  case atStart => exact ⟨0, by omega, rfl, by rw [copyTo_zero]; exact hr1⟩
  case round =>
    obtain ⟨i, hi, rfl, hbr⟩ := hrel
    by_cases hlt : i < l.length
    · obtain ⟨g, off, rfl, hcl⟩ := HB.out.at i hlt
      have c0 : wr.cell? ⟨g, off + i * 2, none⟩ = some (.int .i64 l[i].at_) := hcl wr hbr.bel 0 _ rfl
      have c1 : wr.cell? ⟨g, off + i * 2 + 1, none⟩ = some (.string l[i].text) := hcl wr hbr.bel 1 _ rfl
      have hi0 : (0 : Int) ≤ (i : Int) := by omega
      have hi1 : (i : Int) < (l.length : Int) := by omega
      have hml := copyTo_length (z := wrE.z0) hi
      have hms := copyTo_set (z := wrE.z0) hlt
      have hat := copyTo_at (z := wrE.z0) hlt
      rw [← hml] at hbr
      have HF : Hid (∀ w1, Below wr.heap.size wr w1 → w1.cell? ⟨w.heap.size, i * 2, none⟩ = some (.int .i64 0) ∧ w1.cell? ⟨w.heap.size, i * 2 + 1, none⟩ = some (.string ⟨#[]⟩) ∧ w1.frozen? ⟨w.heap.size, i * 2, none⟩ = false ∧ w1.frozen? ⟨w.heap.size, i * 2 + 1, none⟩ = false) := by
        intro w1 hb1
        have h1 := hbr.later hb1
        exact ⟨h1.cell rfl i _ hat 0 _ rfl, h1.cell rfl i _ hat 1 _ rfl, h1.loose _, h1.loose _⟩
      generalize hx : l[i] = x at *
      obtain ⟨n, t⟩ := x
      simp only at c0 c1
      clear hcl
      go_wp2_with (go_at_call 81; refine (toWrite_any n t _).mono ?_; rintro e w1 ⟨rfl, hb1⟩; obtain ⟨d0, d1, f0, f1⟩ := HF.out w1 hb1)
      have hp := (hbr.later hb1).put2 i _ hat n t
      rw [hms, hml] at hp
      go_roundw
      case rel => exact ⟨i + 1, by omega, by go_num, hp⟩
      case measure => simp [intOf]; omega
    · go_wp2
      go_ret
      rw [copyTo_all (by omega)] at hbr
      exact ⟨_, rfl, hbr⟩

end Go.Proofs.YtgcnebepklelpaaGreat

/- Disks: what they are in memory, and the helpers of the exact laws over them. -/
namespace Go.Proofs.YtgcnebepklelpaaGreat
open Go.RowKit

structure Dk where
  sec : List ByteArray
  cache : List Wr

def DOwn (B T : Nat) (w : World) (v : Value) (d : Dk) : Prop :=
  ∃ va vb, v = .agg #[va, vb] ∧ LOwn strE B T w va d.sec ∧ LOwn wrE B T w vb d.cache ∧ (va.ownBlock = none ∨ va.ownBlock ≠ vb.ownBlock)

theorem DOwn.kept {B T B' T' : Nat} {w w' : World} {v : Value} {d : Dk} (h : DOwn B T w v d) (hk : Kept B' T' w w') (hd : T ≤ B' ∨ T' ≤ B) : DOwn B T w' v d := by
  obtain ⟨va, vb, hv, h1, h2, h3⟩ := h
  exact ⟨va, vb, hv, h1.kept hk hd, h2.kept hk hd, h3⟩

theorem DOwn.later {B T : Nat} {w w' : World} {v : Value} {d : Dk} (h : DOwn B T w v d) (hb : Below w.heap.size w w') : DOwn B T w' v d :=
  h.kept (Kept.of_below hb T T) (.inl (Nat.le_refl _))

theorem DOwn.form {B T : Nat} {w : World} {v : Value} {d : Dk} (h : DOwn B T w v d) : ∃ (a b : Option Addr) (c e : Nat), v = .agg #[.slice a d.sec.length c, .slice b d.cache.length e] := by
  obtain ⟨va, vb, rfl, h1, h2, _⟩ := h
  obtain ⟨a, c, rfl⟩ := h1.1.form
  obtain ⟨b, e, rfl⟩ := h2.1.form
  exact ⟨a, b, c, e, rfl⟩

def DRd (w : World) (v : Value) (d : Dk) : Prop := ∃ va vb, v = .agg #[va, vb] ∧ Strs w va d.sec ∧ Rows' wrE w vb d.cache

theorem DOwn.rd {B T : Nat} {w : World} {v : Value} {d : Dk} (h : DOwn B T w v d) : DRd w v d := by
  obtain ⟨va, vb, hv, h1, h2, _⟩ := h
  exact ⟨va, vb, hv, h1.1.toS.strs, h2.rows⟩

theorem DRd.later {w w' : World} {v : Value} {d : Dk} (h : DRd w v d) (hb : Below w.heap.size w w') : DRd w' v d := by
  obtain ⟨va, vb, hv, h1, h2⟩ := h
  exact ⟨va, vb, hv, h1.later hb, h2.later hb⟩

def Dk.small (d : Dk) : Prop := d.sec.length ≤ 1073741824 ∧ d.cache.length ≤ 1073741824

theorem box_cells (w : World) (c : Array Value) (t : TypeId) {w' : World} (hb : Below (w.alloc (.cells c t)).heap.size (w.alloc (.cells c t)) w') (j : Nat) (u : Value) (hu : c[j]? = some u) : w'.cell? ⟨w.heap.size, j, none⟩ = some u := by
  have h1 : (w.alloc (.cells c t)).cell? ⟨w.heap.size, j, none⟩ = some u := by
    rw [cell_of_row _ _ _ c t (0, 0) (heap_alloc_new w _), hu]
  exact (hb.cell (p := ⟨w.heap.size, j, none⟩) (by simp)).trans h1

theorem eqDisk_same (d : Dk) (v1 v2 : Value) (w : World) (h1 : DRd w v1 d) (h2 : DRd w v2 d) (hs : d.small) :
    Calls Tryz.prog 46 #[v1, v2] w fun e w' => e = .returned (.bool true) ∧ Below w.heap.size w w' := by
  obtain ⟨va, vb, rfl, ha, hb⟩ := h1
  obtain ⟨vc, vd, rfl, hc, hd⟩ := h2
  obtain ⟨s1, s2⟩ := hs
  have b0 : Below w.heap.size w ((w.alloc (.cells #[va, vb] 39)).alloc (.cells #[vc, vd] 39)) := ((Below.refl _ _).alloc (Nat.le_refl _) _).alloc (by simp) _
  have ha' := ha.later b0
  have hc' := hc.later b0
  have HB : Hid (∀ w', Below ((w.alloc (.cells #[va, vb] 39)).alloc (.cells #[vc, vd] 39)).heap.size ((w.alloc (.cells #[va, vb] 39)).alloc (.cells #[vc, vd] 39)) w' →
      Below w.heap.size w w' ∧ Rows' wrE w' vb d.cache ∧ Rows' wrE w' vd d.cache ∧ w'.cell? ⟨w.heap.size, 1, none⟩ = some vb ∧ w'.cell? ⟨w.heap.size + 1, 1, none⟩ = some vd) := by
    intro w' h
    have h' : Below w.heap.size w w' := b0.trans (h.mono b0.size)
    refine ⟨h', hb.later h', hd.later h', ?_, ?_⟩
    · exact box_cells w #[va, vb] 39 (((Below.refl _ _).alloc (Nat.le_refl _) _).trans (h.mono (by simp))) 1 vb rfl
    · have := box_cells (w.alloc (.cells #[va, vb] 39)) #[vc, vd] 39 h 1 vd rfl
      simpa using this
  clear hb hd ha hc
  go_enter Tryz.func46, Tryz.ntmps46
  go_wp2_with fail
  refine (eqStringS_same d.sec va vc _ ha' hc' (by omega)).mono ?_
  rintro e w1 ⟨rfl, hb1⟩
  obtain ⟨hb1', r1, r2, c1, c2⟩ := HB.out w1 hb1
  go_wp2_with fail
  refine (eqWriteS_same d.cache vb vd _ r1 r2 (by omega)).mono ?_
  rintro e w2 ⟨rfl, hb2⟩
  go_wp2
  go_ret
  exact ⟨rfl, hb1'.trans (hb2.mono hb1'.size)⟩

def marksD (k : Nat) (d : Dk) : Dk := ⟨marksOf k d.sec.length, marksW (k + d.sec.length) d.cache.length⟩
def Dk.count (d : Dk) : Nat := d.sec.length + 2 * d.cache.length
def DIn (w : World) (v : Value) (d : Dk) : Prop := ∃ va vb, v = .agg #[va, vb] ∧ Rows' strE w va d.sec ∧ Rows' lwrE w vb d.cache ∧ d.sec.length ≤ 9223372036854775807 ∧ d.cache.length ≤ 9223372036854775807 ∧ (∀ s ∈ d.sec, s.size ≤ 9223372036854775807) ∧ ∀ x ∈ d.cache, x.text.size ≤ 9223372036854775807

theorem DIn.later {w w' : World} {v : Value} {d : Dk} (h : DIn w v d) (hb : Below w.heap.size w w') : DIn w' v d := by
  obtain ⟨va, vb, hv, h1, h2, h3⟩ := h
  exact ⟨va, vb, hv, h1.later hb, h2.later hb, h3⟩

def Dk.lean (d : Dk) (left : Int) : Prop := (d.sec.length : Int) ≤ left ∧ (d.cache.length : Int) ≤ left ∧ (∀ s ∈ d.sec, (s.size : Int) ≤ left) ∧ ∀ x ∈ d.cache, (x.text.size : Int) ≤ left

def SzD (left : Int) (d : Dk) (w : World) (e : Ending) (w' : World) : Prop :=
  ∃ r : Int, e = .returned (.int .i64 r) ∧ Below w.heap.size w w' ∧ r ≤ left ∧ -1 ≤ r ∧ (0 ≤ r → d.lean left)

set_option maxHeartbeats 400000 in
theorem szDisk_any (d : Dk) (v : Value) (left : Int) (w : World) (h : DIn w v d) (h0 : 0 ≤ left) (h1 : left ≤ 1048576) :
    Calls Tryz.prog 28 #[v, .int .i64 left] w fun e w' => SzD left d w e w' := by
  obtain ⟨va, vb, rfl, ha, hb, l1, l2, l3, l4⟩ := h
  have b0 : Below w.heap.size w (w.alloc (.cells #[va, vb] 25)) := (Below.refl _ _).alloc (Nat.le_refl _) _
  have ha' := ha.later b0
  have HB : Hid (∀ w', Below (w.alloc (.cells #[va, vb] 25)).heap.size (w.alloc (.cells #[va, vb] 25)) w' →
      Below w.heap.size w w' ∧ Rows' lwrE w' vb d.cache ∧ w'.cell? ⟨w.heap.size, 1, none⟩ = some vb) := by
    intro w' h
    have h' : Below w.heap.size w w' := b0.trans (h.mono b0.size)
    exact ⟨h', hb.later h', box_cells w #[va, vb] 25 h 1 vb rfl⟩
  clear hb ha
  go_enter Tryz.func28, Tryz.ntmps28
  go_wp2_with fail
  refine (szStringS_any d.sec va left _ ha' h0 h1 l1 l3).mono ?_
  rintro e w1 ⟨r, rfl, hb1, hr1, hr2, hr3⟩
  obtain ⟨hb1', r1, c1⟩ := HB.out w1 hb1
  by_cases hneg : r < 0
  · have HR := Lib.hid hr3
    clear hr3 l3 l4
    go_wp2
    go_ret
    exact ⟨-1, rfl, hb1', by omega, by omega, fun h => by omega⟩
  · have HR := Lib.hid (hr3 (by omega))
    clear hr3
    go_wp2_with fail
    refine (szWriteS_any d.cache vb r _ r1 (by omega) (by omega) l2 l4).mono ?_
    rintro e w2 ⟨q, rfl, hb2, hq1, hq2, hq3⟩
    have b2 := hb1'.trans (hb2.mono hb1'.size)
    have HQ := Lib.hid hq3
    clear hq3 l3 l4
    by_cases hneg2 : q < 0
    · go_wp2
      go_ret
      exact ⟨-1, rfl, b2, by omega, by omega, fun h => by omega⟩
    · go_wp2
      go_ret
      obtain ⟨q1, q2⟩ := HQ.out (by omega)
      exact ⟨q, rfl, b2, by omega, by omega, fun _ => ⟨HR.out.1, by omega, HR.out.2, fun x hx => by have := q2 x hx; omega⟩⟩

set_option maxHeartbeats 400000 in
theorem toDisk_any (d : Dk) (v : Value) (w : World) (h : DIn w v d) (hs : d.sec.length ≤ 1048576) (hc : d.cache.length ≤ 1048576) :
    Calls Tryz.prog 36 #[v] w fun e w' => ∃ v', e = .returned v' ∧ DOwn w.heap.size w'.heap.size w' v' d ∧ Below w.heap.size w w' := by
  obtain ⟨va, vb, rfl, ha, hb, _, _, _, _⟩ := h
  obtain ⟨hx0, hx1, hx2, bel3, hsz⟩ : Box (((w.alloc (.cells #[va, vb] 25)).alloc (.cells #[.slice none 0 0, .slice none 0 0] 39)).alloc (.cells #[.slice none 0 0, .slice none 0 0] 39)) w.heap.size #[va, vb] 25 ∧
      Box (((w.alloc (.cells #[va, vb] 25)).alloc (.cells #[.slice none 0 0, .slice none 0 0] 39)).alloc (.cells #[.slice none 0 0, .slice none 0 0] 39)) (w.heap.size + 1) #[.slice none 0 0, .slice none 0 0] 39 ∧
      Box (((w.alloc (.cells #[va, vb] 25)).alloc (.cells #[.slice none 0 0, .slice none 0 0] 39)).alloc (.cells #[.slice none 0 0, .slice none 0 0] 39)) (w.heap.size + 1 + 1) #[.slice none 0 0, .slice none 0 0] 39 ∧
      Below w.heap.size w (((w.alloc (.cells #[va, vb] 25)).alloc (.cells #[.slice none 0 0, .slice none 0 0] 39)).alloc (.cells #[.slice none 0 0, .slice none 0 0] 39)) ∧
      (((w.alloc (.cells #[va, vb] 25)).alloc (.cells #[.slice none 0 0, .slice none 0 0] 39)).alloc (.cells #[.slice none 0 0, .slice none 0 0] 39)).heap.size = w.heap.size + 3 := by
    have e1 : (w.alloc (.cells #[va, vb] 25)).heap.size = w.heap.size + 1 := by simp
    have e2 : ((w.alloc (.cells #[va, vb] 25)).alloc (.cells #[.slice none 0 0, .slice none 0 0] 39)).heap.size = w.heap.size + 1 + 1 := by simp
    have q0 := Box.new w #[va, vb] 25
    have q1 := Box.new (w.alloc (.cells #[va, vb] 25)) #[.slice none 0 0, .slice none 0 0] 39
    have q2 := Box.new ((w.alloc (.cells #[va, vb] 25)).alloc (.cells #[.slice none 0 0, .slice none 0 0] 39)) #[.slice none 0 0, .slice none 0 0] 39
    rw [e1] at q1
    rw [e2] at q2
    refine ⟨(q0.later ((Below.refl _ _).alloc (Nat.le_refl _) _)).later ((Below.refl _ _).alloc (Nat.le_refl _) _), q1.later ((Below.refl _ _).alloc (Nat.le_refl _) _), q2, (((Below.refl _ _).alloc (Nat.le_refl _) _).alloc (by simp) _).alloc (by simp; omega) _, by simp⟩
  go_enter Tryz.func36, Tryz.ntmps36
  go_wp2_with fail
  generalize (((w.alloc (.cells #[va, vb] 25)).alloc (.cells #[.slice none 0 0, .slice none 0 0] 39)).alloc (.cells #[.slice none 0 0, .slice none 0 0] 39)) = w3 at hx0 hx1 hx2 bel3 hsz ⊢
  refine (toStringS_any d.sec va _ (ha.later bel3) hs).mono ?_
  rintro e w4 ⟨v1, rfl, r1⟩
  obtain ⟨a1, p1, rfl⟩ := r1.form
  have k4 := r1.bel
  have c0 := (hx0.later k4).cell 1 vb rfl
  have c2 := (hx2.later k4).cell 0 (.slice none 0 0) rfl
  have f2 := (hx2.later k4).loose 0
  have bel4 : Below w.heap.size w w4 := bel3.trans (k4.mono bel3.size)
  have x0 := (hx0.later k4).other (g := w.heap.size + 1 + 1) (by omega) 0 (.slice a1 d.sec.length p1)
  have x1 := (hx1.later k4).other (g := w.heap.size + 1 + 1) (by omega) 0 (.slice a1 d.sec.length p1)
  have x2 := (hx2.later k4).set 0 (.slice a1 d.sec.length p1)
  have l1 := r1.lown.store (w.heap.size + 1 + 1) 0 (.slice a1 d.sec.length p1) (by omega)
  have b5 : Below w.heap.size w (w4.setCell ⟨w.heap.size + 1 + 1, 0, none⟩ (.slice a1 d.sec.length p1)) := bel4.setCell (p := ⟨w.heap.size + 1 + 1, 0, none⟩) (by simp; omega) _
  have hb5 := hb.later b5
  have s5 : (w4.setCell ⟨w.heap.size + 1 + 1, 0, none⟩ (.slice a1 d.sec.length p1)).heap.size = w4.heap.size := by simp
  have L1 := Lib.hid l1
  clear ha hb hx0 hx1 hx2 r1 l1
  go_wp2_with fail
  clear c0 c2 f2
  generalize w4.setCell ⟨w.heap.size + 1 + 1, 0, none⟩ (.slice a1 d.sec.length p1) = w5 at x0 x1 x2 L1 b5 hb5 s5 ⊢
  refine (toWriteS_any d.cache vb _ hb5 hc).mono ?_
  rintro e w6 ⟨v2, rfl, r2⟩
  obtain ⟨a2, p2, rfl⟩ := r2.form
  have k6 := r2.bel
  have b6 : Below w.heap.size w w6 := b5.trans (k6.mono b5.size)
  have s6 : w5.heap.size ≤ w6.heap.size := k6.size
  have s4 : w3.heap.size ≤ w4.heap.size := k4.size
  have y1 := x1.later k6
  have y2 := x2.later k6
  have c10 := y1.cell 0 (.slice none 0 0) rfl
  have c11 := y1.cell 1 (.slice none 0 0) rfl
  have c20 := y2.cell 0 (.slice a1 d.sec.length p1) rfl
  have c21 := y2.cell 1 (.slice none 0 0) rfl
  have f10 := y1.loose 0
  have f11 := y1.loose 1
  have f21 := y2.loose 1
  have L6 := Lib.hid (L1.out.later k6)
  have R2 := Lib.hid r2.lown
  clear x0 x1 x2 y1 y2 r2 hb5 L1
  go_wp2
  have q1 := (L6.out.store (w.heap.size + 1 + 1) 1 (.slice a2 d.cache.length p2) (by omega)).store (w.heap.size + 1) 0 (.slice a1 d.sec.length p1) (by omega) |>.store (w.heap.size + 1) 1 (.slice a2 d.cache.length p2) (by omega)
  have q2 := (R2.out.store (w.heap.size + 1 + 1) 1 (.slice a2 d.cache.length p2) (by omega)).store (w.heap.size + 1) 0 (.slice a1 d.sec.length p1) (by omega) |>.store (w.heap.size + 1) 1 (.slice a2 d.cache.length p2) (by omega)
  have b7 := ((b6.setCell (p := ⟨w.heap.size + 1 + 1, 1, none⟩) (by simp; omega) (.slice a2 d.cache.length p2)).setCell (p := ⟨w.heap.size + 1, 0, none⟩) (by simp) (.slice a1 d.sec.length p1)).setCell (p := ⟨w.heap.size + 1, 1, none⟩) (by simp) (.slice a2 d.cache.length p2)
  refine bodyPost_ret (v := .agg #[.slice a1 d.sec.length p1, .slice a2 d.cache.length p2]) ?_ rfl ⟨_, rfl, ?_, b7⟩
  · simp [results, Tryz.results36, go_sem, c10, c11]
  · have e7 := b7.size
    refine ⟨_, _, rfl, (q1.deeper (by omega)).wider (by simp; omega) (Nat.le_refl _), (q2.deeper (by omega)).wider (by simp) (Nat.le_refl _), ?_⟩
    cases ha1 : (Value.slice a1 d.sec.length p1).ownBlock with
    | none => exact .inl rfl
    | some j =>
      refine .inr fun e => ?_
      have j1 := q1.2.2 j ha1
      have j2 := (q2.1.own.lt j e.symm).1
      omega

end Go.Proofs.YtgcnebepklelpaaGreat

/- Appends of one list of the call's own to another, at an operation, in a list of operations and in a region that draws its order. -/
namespace Go.Proofs.YtgcnebepklelpaaGreat
open Go.RowKit

variable {α : Type} {E : Enc α}

theorem RBuf.shift {B : Nat} {w w' : World} {v : Value} {l : List α} {r : Option Nat} (h : RBuf E B w w v l) (hg : w.grownBy w' r) (hne : v.ownBlock = none ∨ v.ownBlock ≠ r) : RBuf E B w' w' v l :=
  ⟨h.own.kept hg hne, Below.refl _ _, Nat.le_trans h.le hg.size⟩

theorem RBuf.lower {B B0 : Nat} {w : World} {v : Value} {l : List α} (h : RBuf E B w w v l) (hB : B0 ≤ B) : RBuf E B0 w w v l := h.down (Below.refl _ _) hB

theorem run_append_rows {w : World} (ty : TypeId) (B : Nat) (v : Value) (l : List α) (hb : RBuf E B w w v l) (Bx : Nat) (vx : Value) (m : List α) (hx : RBuf E Bx w w vx m)
    (hlen : (l.length + m.length) * (E.bytes + 1) ≤ 140737488355328) :
    ∃ v' w', (Builtin.append_ #[E.sty, E.sty] ty #[v, vx]).run Tryz.prog w = .ok v' w' ∧ RBuf E B w' w' v' (l ++ m) ∧ w.grownBy w' v.ownBlock ∧ (v'.ownBlock = v.ownBlock ∨ v'.ownBlock = some w.heap.size) := by
  obtain ⟨i0, hi, hz0, hz1, hz2⟩ := info_parts E.info
  have e0 : (l.length + m.length) * (E.bytes + 1) = (l.length + m.length) * E.bytes + (l.length + m.length) := Nat.mul_succ _ _
  rcases hx.own.2 with ⟨rfl, h0⟩ | ⟨g, cap, cur, rfl, hg, hh, hnc, hcp, hcs, htake⟩
  · obtain rfl := List.length_eq_zero_iff.1 h0
    refine ⟨v, w, run_append_owned_none (P := Tryz.prog) w B E.sty ty E.ty i0 E.sz E.und hi v l.length (E.row l) hb.own, by simpa using hb, World.grownBy.refl _ _, .inl rfl⟩
  · obtain ⟨v', w', h1, h2, h3, _, h5⟩ := run_append_own_at (P := Tryz.prog) w B E.sty ty E.ty i0 E.zero E.sz E.bytes E.und hi hz0 hz1 hz2 E.zc E.pos v l.length (E.row l) hb.own ⟨g, 0, none⟩ m.length cap (E.row m) (E.row_length m)
      (fun j u hu => by
        have hjl : j < m.length * E.sz := by have := (List.getElem?_eq_some_iff.1 hu).1; rwa [E.row_length] at this
        rw [Addr.add_lit, Nat.zero_add, hx.own.cellAt j hjl]; exact hu) (E.row_one' m) (by unfold maxLen; omega) (by omega) hb.le
    refine ⟨v', w', h1, ⟨?_, Below.refl _ _, Nat.le_trans hb.le h3.size⟩, h3, h5⟩
    rw [List.length_append, E.row_append]
    exact h2

theorem wp_append_rows {w : World} {o : Oper} {a : Act} {K : Act → World → Prop} {Q : Exit → Act → World → Prop} (s x : Operand) (E : Enc α)
    (ho : o.op = .call { callee := .builtin .append, args := #[s, x], argTypes := #[E.sty, E.sty] })
    (B : Nat) (v : Value) (l : List α) (hs : a.eval s = v) (hb : RBuf E B w w v l) (Bx : Nat) (vx : Value) (m : List α) (hxv : a.eval x = vx) (hx : RBuf E Bx w w vx m)
    (hlen : (l.length + m.length) * (E.bytes + 1) ≤ 140737488355328)
    (h : ∀ v' w', RBuf E B w' w' v' (l ++ m) → w.grownBy w' v.ownBlock → (v'.ownBlock = v.ownBlock ∨ v'.ownBlock = some w.heap.size) → K (a.put o.dst v') w') : o.wp Tryz.prog a w K Q := by
  obtain ⟨v', w', hr, h2, h3, h4⟩ := run_append_rows o.type B v l hb Bx vx m hx hlen
  unfold Oper.wp execOp
  simp only [ho, resolve, invoke, builtin, Sem.run_bind, Sem.run_pure, Result.andThen_ok, List.map_toArray, List.map_cons, List.map_nil, hs, hxv, hr]
  exact h v' w' h2 h3 h4

theorem wpList_append_rows {w : World} {ops : Array Oper} {rest : List Oper} {o : Oper} {a : Act} {Q : Exit → Act → World → Prop} (hgd : o.guard = none) (s x : Operand) (E : Enc α)
    (ho : o.op = .call { callee := .builtin .append, args := #[s, x], argTypes := #[E.sty, E.sty] })
    (B : Nat) (v : Value) (l : List α) (hs : a.eval s = v) (hb : RBuf E B w w v l) (Bx : Nat) (vx : Value) (m : List α) (hxv : a.eval x = vx) (hx : RBuf E Bx w w vx m)
    (hlen : (l.length + m.length) * (E.bytes + 1) ≤ 140737488355328)
    (h : ∀ v' w', RBuf E B w' w' v' (l ++ m) → w.grownBy w' v.ownBlock → (v'.ownBlock = v.ownBlock ∨ v'.ownBlock = some w.heap.size) → wpList Tryz.prog ops Q rest (a.put o.dst v') w') : wpList Tryz.prog ops Q (o :: rest) a w :=
  wpList_plain hgd fun _ hK => wp_append_rows s x E ho B v l hs hb Bx vx m hxv hx hlen fun v' w' h2 h3 h4 => hK _ _ (h v' w' h2 h3 h4)

theorem step_append_rows {w : World} {ops : Array Oper} {o : Oper} {a : Act} {K : Act → World → Prop} {Q : Exit → Act → World → Prop} {X : Prop} (hgd : o.guard = none) (s x : Operand) (E : Enc α)
    (ho : o.op = .call { callee := .builtin .append, args := #[s, x], argTypes := #[E.sty, E.sty] })
    (B : Nat) (v : Value) (l : List α) (hs : a.eval s = v) (hb : RBuf E B w w v l) (Bx : Nat) (vx : Value) (m : List α) (hxv : a.eval x = vx) (hx : RBuf E Bx w w vx m)
    (hlen : (l.length + m.length) * (E.bytes + 1) ≤ 140737488355328)
    (h : ∀ v' w', RBuf E B w' w' v' (l ++ m) → w.grownBy w' v.ownBlock → (v'.ownBlock = v.ownBlock ∨ v'.ownBlock = some w.heap.size) → (∀ k, v.ownBlock = some k → B ≤ k ∧ k < w.heap.size) → K (a.put o.dst v') w') :
    if Region.wanted o (yielded ops a.tmps) = true then Oper.wp Tryz.prog o a w K Q else X := by
  have hw : Region.wanted o (yielded ops a.tmps) = true := by simp [Region.wanted, hgd]
  rw [if_pos hw]
  exact wp_append_rows s x E ho B v l hs hb Bx vx m hxv hx hlen fun v' w' h2 h3 h4 => h v' w' h2 h3 h4 (fun k hk => hb.own.lt k hk)

theorem RBuf.lit1 (E : Enc α) (w : World) (x : α) : RBuf E w.heap.size (w.alloc (.cells (E.f x).toArray E.ty)) (w.alloc (.cells (E.f x).toArray E.ty)) (.slice (some ⟨w.heap.size, 0, none⟩) 1 1) [x] := by
  refine ⟨?_, Below.refl _ _, by simp⟩
  have := World.ownsRow_lit (base := w.heap.size) (e := E.ty) (size := E.sz) w (E.f x).toArray 1 (Nat.le_refl _) (by decide) (by simp [E.len])
  simpa [E.row_one] using this

end Go.Proofs.YtgcnebepklelpaaGreat

/- Plain facts on the bytes of a number, with no program in them: the groups of seven bits of a number, the lowest first. -/
namespace Go.Proofs.YtgcnebepklelpaaGreat

def hiByte (m : Nat) : UInt8 := UInt8.ofNat (m % 128 + 128)
def loByte (m : Nat) : UInt8 := UInt8.ofNat m

def vtF : Nat → Nat → List UInt8
  | 0, n => [loByte n]
  | f + 1, n => if 127 < n then hiByte n :: vtF f (n / 128) else [loByte n]

def vt (n : Nat) : List UInt8 := vtF n n

end Go.Proofs.YtgcnebepklelpaaGreat

/- Plain facts on reading a number in groups of seven bits, with no program in them. -/
namespace Go.Proofs.YtgcnebepklelpaaGreat

def rg : Nat → List UInt8 → Nat → Nat → Option (Nat × Nat)
  | 0, _, _, _ => none
  | _ + 1, [], _, _ => none
  | f + 1, c :: cs, i, n => if c.toNat < 128 then some (n + c.toNat % 128 * 128 ^ i, i + 1) else rg f cs (i + 1) (n + c.toNat % 128 * 128 ^ i)

def rv (l : List UInt8) (k : Nat) : Option (Nat × Nat) :=
  match rg 5 (l.drop k) 0 0 with
  | some (n, c) => if n ≤ 1000000000 ∧ vt n = (l.drop k).take c then some (n, k + c) else none
  | none => none

end Go.Proofs.YtgcnebepklelpaaGreat

/- Plain facts on rows of bytes. -/
namespace Go.Proofs.YtgcnebepklelpaaGreat

end Go.Proofs.YtgcnebepklelpaaGreat

/- Plain facts, with no program in them: frames, their texts, and what is read of a text. -/
namespace Go.Proofs.YtgcnebepklelpaaGreat

def vtB (n : Nat) : ByteArray := ⟨(vt n).toArray⟩
structure Fr where
  gen : Int
  seq : Int
  body : ByteArray

def Fr.ok (f : Fr) : Prop := (1 ≤ f.gen ∧ f.gen ≤ 1000000000) ∧ (1 ≤ f.seq ∧ f.seq ≤ 1000000000) ∧ 1 ≤ f.body.size ∧ f.body.size ≤ 180
instance decFrOk (f : Fr) : Decidable f.ok := by unfold Fr.ok; infer_instance

def Fr.raw (f : Fr) : ByteArray := vtB f.gen.toNat ++ vtB f.seq.toNat ++ (vtB f.body.size ++ f.body)
def Fr.text (f : Fr) (four : ByteArray → ByteArray) : ByteArray := f.raw ++ four f.raw

def ru (s : ByteArray) (k : Nat) : Option (Fr × Nat) :=
  match rv s.data.toList k with
  | none => none
  | some (g, a) =>
    match rv s.data.toList a with
    | none => none
    | some (q, b) =>
      match rv s.data.toList b with
      | none => none
      | some (n, c) => if n ≤ 20000 ∧ n + c ≤ s.size then some (⟨g, q, s.extract c (c + n)⟩, c + n) else none

def rf (four : ByteArray → ByteArray) (s : ByteArray) (k : Nat) : Option (Fr × Nat) :=
  match ru s k with
  | some (f, e) => if f.ok ∧ e + 4 ≤ s.size ∧ f.text four = s.extract k (e + 4) then some (f, e + 4) else none
  | none => none

variable {four : ByteArray → ByteArray}

def sqF (four : ByteArray → ByteArray) : Nat → ByteArray → Int → Nat → List (Fr × Nat)
  | 0, _, _, _ => []
  | n + 1, s, g, k =>
    match rf four s k with
    | some (f, e) => if f.gen = g then (f, e) :: sqF four n s g e else []
    | none => []
def sq (four : ByteArray → ByteArray) (s : ByteArray) (g : Int) (k : Nat) : List (Fr × Nat) := sqF four (s.size + 1 - k) s g k

def behind : Nat → List (Fr × Nat) → Nat
  | k, [] => k
  | _, x :: l => behind x.2 l

end Go.Proofs.YtgcnebepklelpaaGreat

/- Plain facts on the values of figures, with no program in them. -/
namespace Go.Proofs.YtgcnebepklelpaaGreat

end Go.Proofs.YtgcnebepklelpaaGreat

/- Plain facts, with no program in them: what is written is read back. -/
namespace Go.Proofs.YtgcnebepklelpaaGreat

end Go.Proofs.YtgcnebepklelpaaGreat

/- Plain facts on records: what is right, their texts, and that they come back from them. -/
namespace Go.Proofs.YtgcnebepklelpaaGreat

structure Rc where
  kind : Int
  valid : Int
  uid : Int
  next : Int
  flags : Int
  user : ByteArray
  name : ByteArray
  text : ByteArray

def wdOk (s : ByteArray) : Prop := (1 ≤ s.size ∧ s.size ≤ 8) ∧ ∀ b ∈ s.data.toList, 97 ≤ b.toNat ∧ b.toNat ≤ 122
instance decWdOk (s : ByteArray) : Decidable (wdOk s) := by unfold wdOk; infer_instance

def emp : ByteArray := ⟨#[]⟩

def Rc.ok (r : Rc) : Prop := (1 ≤ r.kind ∧ r.kind ≤ 5) ∧ (1 ≤ r.valid ∧ r.valid ≤ 9999) ∧
  (if r.kind = 1 then wdOk r.user ∧ wdOk r.name ∧ 1 ≤ r.next ∧ r.next ≤ 10000 else r.user = emp ∧ r.name = emp ∧ r.next = 0) ∧
  (if 3 ≤ r.kind then 1 ≤ r.uid ∧ r.uid ≤ 9999 else r.uid = 0) ∧
  (if r.kind = 3 ∨ r.kind = 4 then 0 ≤ r.flags ∧ r.flags ≤ 7 else r.flags = 0) ∧
  (if r.kind = 3 then r.text.size ≤ 100 else r.text = emp)
instance decRcOk (r : Rc) : Decidable r.ok := by unfold Rc.ok; infer_instance

theorem Rc.ok_small {r : Rc} (h : r.ok) : (1 ≤ r.kind ∧ r.kind ≤ 5) ∧ (0 ≤ r.valid ∧ r.valid ≤ 9999) ∧ (0 ≤ r.uid ∧ r.uid ≤ 9999) ∧ (0 ≤ r.next ∧ r.next ≤ 10000) ∧ (0 ≤ r.flags ∧ r.flags ≤ 7) ∧ r.user.size ≤ 8 ∧ r.name.size ≤ 8 ∧ r.text.size ≤ 100 := by
  obtain ⟨h1, h2, h3, h4, h5, h6⟩ := h
  have he : emp.size = 0 := rfl
  have a3 : (0 ≤ r.next ∧ r.next ≤ 10000) ∧ r.user.size ≤ 8 ∧ r.name.size ≤ 8 := by
    split at h3
    · exact ⟨by omega, h3.1.1.2, h3.2.1.1.2⟩
    · rw [h3.1, h3.2.1, he]; omega
  have a4 : 0 ≤ r.uid ∧ r.uid ≤ 9999 := by split at h4 <;> omega
  have a5 : 0 ≤ r.flags ∧ r.flags ≤ 7 := by split at h5 <;> omega
  have a6 : r.text.size ≤ 100 := by
    split at h6
    · exact h6
    · rw [h6, he]; omega
  exact ⟨h1, by omega, a4, a3.1, a5, a3.2.1, a3.2.2, a6⟩

theorem tl_len (s : ByteArray) : s.data.toList.length = s.size := by rw [Array.length_toList]; rfl

end Go.Proofs.YtgcnebepklelpaaGreat

/- The bytes of a number: what spec.l01Var, spec.VarText and impl.VarText hand back. -/
namespace Go.Proofs.YtgcnebepklelpaaGreat
open Go.RowKit


theorem l01In_any (x a b : Int) (w : World) :
    Calls Tryz.prog 56 #[.int .i64 x, .int .i64 a, .int .i64 b] w fun e w' => e = .returned (.bool (decide (a ≤ x) && decide (x ≤ b))) ∧ w' = w := by
  by_cases h1 : a ≤ x
  · by_cases h2 : x ≤ b
    all_goals
      go_enter Tryz.func56, Tryz.ntmps56
      go_wp2
      go_ret
      exact ⟨by simp [h1, h2], rfl⟩
  · have h3 : decide (a ≤ x) = false := decide_eq_false h1
    go_enter Tryz.func56, Tryz.ntmps56
    go_wp2
    go_ret
    exact ⟨by simp, rfl⟩

end Go.Proofs.YtgcnebepklelpaaGreat
