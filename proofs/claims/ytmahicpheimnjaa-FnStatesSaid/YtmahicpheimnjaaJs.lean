/- Texts of our own, joined. -/
import Derived.Test.YtmahicpheimnjaaJr
import Derived.Test.YtmahicpheimnjaaJn
import Derived.Test.YtmahicpheimnjaaJk
import Derived.Laws.StructEq
/- Lists that come in: how great they are (szStringS, szWriteS), and copies of them in memory of the call's own (toStringS, toWriteS, toIntS). -/
namespace Go.Proofs.Ytmahicpheimnjaa
open Go.RowKit

/-- What a size function leaves over: less than nothing, or something, and then each part is small. -/
def SzR {α : Type} (size : α → Nat) (left : Int) (l : List α) (w : World) (e : Ending) (w' : World) : Prop :=
  ∃ r : Int, e = .returned (.int .i64 r) ∧ Below w.heap.size w w' ∧ r ≤ left ∧ -1 ≤ r ∧ (0 ≤ r → (l.length : Int) ≤ left ∧ ∀ x ∈ l, (size x : Int) ≤ left)

set_option maxRecDepth 100000 in
set_option maxHeartbeats 1000000 in
theorem szStringS_any (l : List ByteArray) (v : Value) (left : Int) (w : World) (hb : Rows' strE w v l) (h0 : 0 ≤ left) (h1 : left ≤ 1048576) (hl : l.length ≤ 9223372036854775807) (hs : ∀ s ∈ l, s.size ≤ 9223372036854775807) :
    Calls Try.prog 69 #[v, .int .i64 left] w fun e w' => SzR ByteArray.size left l w e w' := by
  rcases hb.ways with ⟨rfl, a, c, rfl⟩ | ⟨hne, g, off, cap, rfl, hca, hg, hcl⟩
  · clear hb
    go_enter Try.func69, Try.ntmps69
    go_wp2
    go_loop [1, 5] (fun kv iv => kv = .int .i64 left ∧ iv = .int .i64 0) (fun _ _ => 0)
    case atStart => exact ⟨rfl, rfl⟩
    case round =>
      obtain ⟨rfl, rfl⟩ := hrel
      go_wp2
      go_ret
      exact ⟨left, rfl, Below.refl _ _, by omega, by omega, fun _ => ⟨by simpa using h0, by simp⟩⟩
  · have HC := Lib.hid hcl
    have HS := Lib.hid hs
    clear hcl hb hne hs
    by_cases hbig : left < (l.length : Int)
    · have hn : left - (l.length : Int) < 0 := by omega
      go_enter Try.func69, Try.ntmps69
      go_wp2
      go_ret
      exact ⟨-1, rfl, Below.refl _ _, by omega, by omega, fun h => by omega⟩
    · have hn : ¬ left - (l.length : Int) < 0 := by omega
      go_enter Try.func69, Try.ntmps69
      go_wp2
      go_loopw [1, 5] (fun kv iv wr => ∃ (i : Nat) (r : Int), i ≤ l.length ∧ iv = .int .i64 (i : Int) ∧ kv = .int .i64 r ∧ 0 ≤ r ∧ r ≤ left ∧ (∀ x ∈ l.take i, (x.size : Int) ≤ left) ∧ wr = w) (fun _ iv _ => l.length - (intOf iv).toNat)
      case atStart => exact ⟨0, _, by omega, rfl, rfl, by omega, by omega, by simp, rfl⟩
      case round =>
        obtain ⟨i, r, hi, rfl, rfl, hr0, hr1, hall, rfl⟩ := hrel
        by_cases hlt : i < l.length
        · have hat := List.getElem?_eq_getElem hlt
          have hsz := HS.out _ (List.getElem_mem hlt)
          have c0 : wr.cell? ⟨g, off + i, none⟩ = some (.string l[i]) := by
            have := HC.out i _ hat 0 _ rfl
            rw [show strE.sz = 1 from rfl, Nat.mul_one, Nat.add_zero] at this
            exact this
          have htk : l.take (i + 1) = l.take i ++ [l[i]] := List.take_succ_eq_append_getElem hlt
          have HT := Lib.hid htk
          have HA := Lib.hid hall
          clear hat htk hall
          generalize l[i] = t at *
          by_cases hneg : r - (t.size : Int) < 0
          · go_wp2
            go_ret
            exact ⟨-1, rfl, Below.refl _ _, by omega, by omega, fun h => by omega⟩
          · go_wp2
            go_roundw
            case rel => exact ⟨i + 1, r - (t.size : Int), by omega, by go_num, by go_num, by omega, by omega, by
              rw [HT.out]
              intro x hx
              rcases List.mem_append.1 hx with h | h
              · exact HA.out x h
              · simp at h; subst h; omega, trivial⟩
            case measure => simp [intOf]; omega
        · go_wp2
          go_ret
          have : l.take i = l := List.take_of_length_le (by omega)
          rw [this] at hall
          exact ⟨r, rfl, Below.refl _ _, hr1, by omega, fun _ => ⟨by omega, hall⟩⟩

theorem szWrite_any (n : Int) (t : ByteArray) (left : Int) (w : World) (h0 : 0 ≤ left) (h1 : left ≤ 1048576) (hs : t.size ≤ 9223372036854775807) :
    Calls Try.prog 105 #[.agg #[.int .i64 n, .string t], .int .i64 left] w fun e w' => e = .returned (.int .i64 (if left - (t.size : Int) < 0 then -1 else left - (t.size : Int))) ∧ Below w.heap.size w w' := by
  by_cases hn : left - (t.size : Int) < 0
  · rw [if_pos hn]
    go_enter Try.func105, Try.ntmps105
    go_wp2
    go_ret
    exact ⟨rfl, (Below.refl _ _).alloc (Nat.le_refl _) _⟩
  · rw [if_neg hn]
    go_enter Try.func105, Try.ntmps105
    go_wp2
    go_ret
    exact ⟨rfl, (Below.refl _ _).alloc (Nat.le_refl _) _⟩

set_option maxRecDepth 100000 in
set_option maxHeartbeats 1000000 in
theorem szWriteS_any (l : List Wr) (v : Value) (left : Int) (w : World) (hb : Rows' lwrE w v l) (h0 : 0 ≤ left) (h1 : left ≤ 1048576) (hl : l.length ≤ 9223372036854775807) (hs : ∀ x ∈ l, x.text.size ≤ 9223372036854775807) :
    Calls Try.prog 70 #[v, .int .i64 left] w fun e w' => SzR (fun x : Wr => x.text.size) left l w e w' := by
  rcases hb.ways with ⟨rfl, a, c, rfl⟩ | ⟨hne, g, off, cap, rfl, hca, hg, hcl⟩
  · clear hb
    go_enter Try.func70, Try.ntmps70
    go_wp2
    go_loop [1, 5] (fun kv iv => kv = .int .i64 left ∧ iv = .int .i64 0) (fun _ _ => 0)
    case atStart => exact ⟨rfl, rfl⟩
    case round =>
      obtain ⟨rfl, rfl⟩ := hrel
      go_wp2
      go_ret
      exact ⟨left, rfl, Below.refl _ _, by omega, by omega, fun _ => ⟨by simpa using h0, by simp⟩⟩
  · have HC := Lib.hid hcl
    have HS := Lib.hid hs
    clear hcl hb hne hs
    by_cases hbig : left < (l.length : Int)
    · have hn : left - (l.length : Int) < 0 := by omega
      go_enter Try.func70, Try.ntmps70
      go_wp2
      go_ret
      exact ⟨-1, rfl, Below.refl _ _, by omega, by omega, fun h => by omega⟩
    · have hn : ¬ left - (l.length : Int) < 0 := by omega
      go_enter Try.func70, Try.ntmps70
      go_wp2
      go_loopw [1, 5] (fun kv iv wr => ∃ (i : Nat) (r : Int), i ≤ l.length ∧ iv = .int .i64 (i : Int) ∧ kv = .int .i64 r ∧ 0 ≤ r ∧ r ≤ left ∧ (∀ x ∈ l.take i, (x.text.size : Int) ≤ left) ∧ Below w.heap.size w wr) (fun _ iv _ => l.length - (intOf iv).toNat)
      case atStart => exact ⟨0, _, by omega, rfl, rfl, by omega, by omega, by simp, Below.refl _ _⟩
      case round =>
        obtain ⟨i, r, hi, rfl, rfl, hr0, hr1, hall, hbel⟩ := hrel
        by_cases hlt : i < l.length
        · have hat := List.getElem?_eq_getElem hlt
          have hsz := HS.out _ (List.getElem_mem hlt)
          obtain ⟨c0, c1⟩ := wr_cells (E := lwrE) rfl rfl HC.out hg hbel i _ hat
          have htk : l.take (i + 1) = l.take i ++ [l[i]] := List.take_succ_eq_append_getElem hlt
          have HT := Lib.hid htk
          have HA := Lib.hid hall
          clear hat htk hall
          generalize l[i] = x at *
          obtain ⟨n, t⟩ := x
          simp only at c0 c1 hsz
          by_cases hneg : r - (t.size : Int) < 0
          · go_wp2_with (go_at_call 105; refine (szWrite_any n t r _ hr0 (by omega) hsz).mono ?_; rintro e w1 ⟨rfl, hb1⟩; rw [if_pos hneg])
            go_ret
            exact ⟨-1, rfl, hbel.trans (hb1.mono hbel.size), by omega, by omega, fun h => by omega⟩
          · go_wp2_with (go_at_call 105; refine (szWrite_any n t r _ hr0 (by omega) hsz).mono ?_; rintro e w1 ⟨rfl, hb1⟩; rw [if_neg hneg])
            go_roundw
            case rel => exact ⟨i + 1, r - (t.size : Int), by omega, by go_num, by go_num, by omega, by omega, by
              rw [HT.out]
              intro x hx
              rcases List.mem_append.1 hx with h | h
              · exact HA.out x h
              · simp at h; subst h; simp only; omega, hbel.trans (hb1.mono hbel.size)⟩
            case measure => simp [intOf]; omega
        · go_wp2
          go_ret
          have : l.take i = l := List.take_of_length_le (by omega)
          rw [this] at hall
          exact ⟨r, rfl, hbel, hr1, by omega, fun _ => ⟨by omega, hall⟩⟩

theorem toWrite_any (n : Int) (t : ByteArray) (w : World) :
    Calls Try.prog 107 #[.agg #[.int .i64 n, .string t]] w fun e w' => e = .returned (.agg #[.int .i64 n, .string t]) ∧ Below w.heap.size w w' := by
  go_enter Try.func107, Try.ntmps107
  go_wp2
  refine bodyPost_ret (v := .agg #[.int .i64 n, .string t]) (by simp [results, Try.results107, go_sem]) rfl ⟨rfl, ?_⟩
  exact (((Below.refl _ _).alloc (Nat.le_refl _) _).alloc (by simp) _).alloc (by simp; omega) _

set_option maxRecDepth 100000 in
set_option maxHeartbeats 1000000 in
theorem toStringS_any (l : List ByteArray) (v : Value) (w : World) (hb : Rows' strE w v l) (hl : l.length ≤ 1048576) :
    Calls Try.prog 72 #[v] w fun e w' => ∃ v', e = .returned v' ∧ RBuf strE w.heap.size w w' v' l := by
  obtain ⟨a, cap, rfl⟩ : ∃ (a : Option Addr) (cap : Nat), v = .slice a l.length cap := by
    rcases hb with ⟨rfl, a, c, rfl⟩ | ⟨g, off, c, rfl, _⟩
    · exact ⟨a, c, rfl⟩
    · exact ⟨_, c, rfl⟩
  have HB := Lib.hid hb
  clear hb
  go_enter Try.func72, Try.ntmps72
  go_wp2_with (at_make; refine wpList_make_rows rfl _ _ strE rfl .i64 .i64 _ _ l.length rfl rfl rfl rfl (by show 17 * l.length ≤ _; omega) ?_; intro w1 hr1 hs1)
  go_loopw [4] (fun iv wr => ∃ i : Nat, i ≤ l.length ∧ iv = .int .i64 (i : Int) ∧ RBuf strE w.heap.size w wr (.slice (some ⟨w.heap.size, 0, none⟩) l.length l.length) (copyTo strE.z0 l i)) (fun iv _ => l.length - (intOf iv).toNat)
  case atStart => exact ⟨0, by omega, rfl, by rw [copyTo_zero]; exact hr1⟩
  case round =>
    obtain ⟨i, hi, rfl, hbr⟩ := hrel
    by_cases hlt : i < l.length
    · obtain ⟨g, off, rfl, hcl⟩ := HB.out.at i hlt
      have hcs := hcl wr hbr.bel 0 _ rfl
      rw [show strE.sz = 1 from rfl, Nat.mul_one, Nat.add_zero] at hcs
      have hi0 : (0 : Int) ≤ (i : Int) := by omega
      have hi1 : (i : Int) < (l.length : Int) := by omega
      have hml := copyTo_length (z := strE.z0) hi
      have hms := copyTo_set (z := strE.z0) hlt
      have hat := copyTo_at (z := strE.z0) hlt
      rw [← hml] at hbr
      have cd : wr.cell? ⟨w.heap.size, i, none⟩ = some (.string strE.z0) := by
        have := hbr.cell rfl i _ hat 0 _ rfl
        rw [show strE.sz = 1 from rfl, Nat.mul_one, Nat.add_zero] at this
        exact this
      have fd := hbr.loose i
      have hst := hbr.stored i _ l[i] hat 0 (by decide) (.string l[i]) rfl
      rw [show strE.sz = 1 from rfl, Nat.mul_one, Nat.add_zero, hms, hml] at hst
      clear hcl hbr hat hml hms
      generalize l[i] = t at *
      go_wp2
      go_roundw
      case rel => exact ⟨i + 1, by omega, by go_num, hst⟩
      case measure => simp [intOf]; omega
    · go_wp2
      go_ret
      rw [copyTo_all (by omega)] at hbr
      exact ⟨_, rfl, hbr⟩

/-- A whole write is stored. -/
theorem RBuf.put2 {B : Nat} {w0 w : World} {g cap : Nat} {l : List Wr} (h : RBuf wrE B w0 w (.slice (some ⟨g, 0, none⟩) l.length cap) l) (i : Nat) (x : Wr) (hi : l[i]? = some x) (n : Int) (t : ByteArray) :
    RBuf wrE B w0 ((w.setCell ⟨g, i * 2, none⟩ (.int .i64 n)).setCell ⟨g, i * 2 + 1, none⟩ (.string t)) (.slice (some ⟨g, 0, none⟩) l.length cap) (l.set i ⟨n, t⟩) := by
  have hlt : i < l.length := (List.getElem?_eq_some_iff.1 hi).1
  have st0 : RBuf wrE B w0 (w.setCell ⟨g, i * 2, none⟩ (.int .i64 n)) (.slice (some ⟨g, 0, none⟩) l.length cap) (l.set i ⟨n, x.text⟩) :=
    h.stored i _ ⟨n, x.text⟩ hi 0 (by decide) (.int .i64 n) rfl
  have hat1 : (l.set i ⟨n, x.text⟩)[i]? = some ⟨n, x.text⟩ := List.getElem?_set_self hlt
  have hl1 : (l.set i (⟨n, x.text⟩ : Wr)).length = l.length := by simp
  rw [← hl1] at st0
  have st2 := st0.stored i _ ⟨n, t⟩ hat1 1 (by decide) (.string t) rfl
  rw [List.set_set, hl1] at st2
  exact st2

set_option maxRecDepth 100000 in
set_option maxHeartbeats 1000000 in
theorem toWriteS_any (l : List Wr) (v : Value) (w : World) (hb : Rows' lwrE w v l) (hl : l.length ≤ 1048576) :
    Calls Try.prog 73 #[v] w fun e w' => ∃ v', e = .returned v' ∧ RBuf wrE w.heap.size w w' v' l := by
  obtain ⟨a, cap, rfl⟩ : ∃ (a : Option Addr) (cap : Nat), v = .slice a l.length cap := by
    rcases hb with ⟨rfl, a, c, rfl⟩ | ⟨g, off, c, rfl, _⟩
    · exact ⟨a, c, rfl⟩
    · exact ⟨_, c, rfl⟩
  have HB := Lib.hid hb
  clear hb
  go_enter Try.func73, Try.ntmps73
  go_wp2_with (at_make; refine wpList_make_rows rfl _ _ wrE rfl .i64 .i64 _ _ l.length rfl rfl rfl rfl (by show 25 * l.length ≤ _; omega) ?_; intro w1 hr1 hs1)
  go_loopw [4] (fun iv wr => ∃ i : Nat, i ≤ l.length ∧ iv = .int .i64 (i : Int) ∧ RBuf wrE w.heap.size w wr (.slice (some ⟨w.heap.size, 0, none⟩) l.length l.length) (copyTo wrE.z0 l i)) (fun iv _ => l.length - (intOf iv).toNat)
  case atStart => exact ⟨0, by omega, rfl, by rw [copyTo_zero]; exact hr1⟩
  case round =>
    obtain ⟨i, hi, rfl, hbr⟩ := hrel
    by_cases hlt : i < l.length
    · obtain ⟨g, off, rfl, hcl⟩ := HB.out.at i hlt
      have c0 : wr.cell? ⟨g, off + i * 2, none⟩ = some (.int .i64 l[i].at_) := hcl wr hbr.bel 0 _ rfl
      have c1 : wr.cell? ⟨g, off + i * 2 + 1, none⟩ = some (.string l[i].text) := hcl wr hbr.bel 1 _ rfl
      have hi0 : (0 : Int) ≤ (i : Int) := by omega
      have hi1 : (i : Int) < (l.length : Int) := by omega
      have hml := copyTo_length (z := wrE.z0) hi
      have hms := copyTo_set (z := wrE.z0) hlt
      have hat := copyTo_at (z := wrE.z0) hlt
      rw [← hml] at hbr
      have HF : Hid (∀ w1, Below wr.heap.size wr w1 → w1.cell? ⟨w.heap.size, i * 2, none⟩ = some (.int .i64 0) ∧ w1.cell? ⟨w.heap.size, i * 2 + 1, none⟩ = some (.string ⟨#[]⟩) ∧ w1.frozen? ⟨w.heap.size, i * 2, none⟩ = false ∧ w1.frozen? ⟨w.heap.size, i * 2 + 1, none⟩ = false) := by
        intro w1 hb1
        have h1 := hbr.later hb1
        exact ⟨h1.cell rfl i _ hat 0 _ rfl, h1.cell rfl i _ hat 1 _ rfl, h1.loose _, h1.loose _⟩
      generalize hx : l[i] = x at *
      obtain ⟨n, t⟩ := x
      simp only at c0 c1
      clear hcl
      go_wp2_with (go_at_call 107; refine (toWrite_any n t _).mono ?_; rintro e w1 ⟨rfl, hb1⟩; obtain ⟨d0, d1, f0, f1⟩ := HF.out w1 hb1)
      have hp := (hbr.later hb1).put2 i _ hat n t
      rw [hms, hml] at hp
      go_roundw
      case rel => exact ⟨i + 1, by omega, by go_num, hp⟩
      case measure => simp [intOf]; omega
    · go_wp2
      go_ret
      rw [copyTo_all (by omega)] at hbr
      exact ⟨_, rfl, hbr⟩

end Go.Proofs.Ytmahicpheimnjaa

/- Disks: what they are in memory, and the helpers of the exact laws over them. -/
namespace Go.Proofs.Ytmahicpheimnjaa
open Go.RowKit

/-- A disk: its sectors, and what waits. -/
structure Dk where
  sec : List ByteArray
  cache : List Wr

/-- The value v is the disk d, in memory of its own: two rows in the blocks B .. T-1, and not the same one. -/
def DOwn (B T : Nat) (w : World) (v : Value) (d : Dk) : Prop :=
  ∃ va vb, v = .agg #[va, vb] ∧ LOwn strE B T w va d.sec ∧ LOwn wrE B T w vb d.cache ∧ (va.ownBlock = none ∨ va.ownBlock ≠ vb.ownBlock)

theorem DOwn.kept {B T B' T' : Nat} {w w' : World} {v : Value} {d : Dk} (h : DOwn B T w v d) (hk : Kept B' T' w w') (hd : T ≤ B' ∨ T' ≤ B) : DOwn B T w' v d := by
  obtain ⟨va, vb, hv, h1, h2, h3⟩ := h
  exact ⟨va, vb, hv, h1.kept hk hd, h2.kept hk hd, h3⟩

theorem DOwn.later {B T : Nat} {w w' : World} {v : Value} {d : Dk} (h : DOwn B T w v d) (hb : Below w.heap.size w w') : DOwn B T w' v d :=
  h.kept (Kept.of_below hb T T) (.inl (Nat.le_refl _))

theorem DOwn.form {B T : Nat} {w : World} {v : Value} {d : Dk} (h : DOwn B T w v d) : ∃ (a b : Option Addr) (c e : Nat), v = .agg #[.slice a d.sec.length c, .slice b d.cache.length e] := by
  obtain ⟨va, vb, rfl, h1, h2, _⟩ := h
  obtain ⟨a, c, rfl⟩ := h1.1.form
  obtain ⟨b, e, rfl⟩ := h2.1.form
  exact ⟨a, b, c, e, rfl⟩

/-- A disk whose rows can be read. -/
def DRd (w : World) (v : Value) (d : Dk) : Prop := ∃ va vb, v = .agg #[va, vb] ∧ Strs w va d.sec ∧ Rows' wrE w vb d.cache

theorem DOwn.rd {B T : Nat} {w : World} {v : Value} {d : Dk} (h : DOwn B T w v d) : DRd w v d := by
  obtain ⟨va, vb, hv, h1, h2, _⟩ := h
  exact ⟨va, vb, hv, h1.1.toS.strs, h2.rows⟩

theorem DRd.later {w w' : World} {v : Value} {d : Dk} (h : DRd w v d) (hb : Below w.heap.size w w') : DRd w' v d := by
  obtain ⟨va, vb, hv, h1, h2⟩ := h
  exact ⟨va, vb, hv, h1.later hb, h2.later hb⟩

def Dk.small (d : Dk) : Prop := d.sec.length ≤ 1073741824 ∧ d.cache.length ≤ 1073741824

/-- Two boxes laid one behind the other can be read, whatever is laid behind them. -/
theorem box_cells (w : World) (c : Array Value) (t : TypeId) {w' : World} (hb : Below (w.alloc (.cells c t)).heap.size (w.alloc (.cells c t)) w') (j : Nat) (u : Value) (hu : c[j]? = some u) : w'.cell? ⟨w.heap.size, j, none⟩ = some u := by
  have h1 : (w.alloc (.cells c t)).cell? ⟨w.heap.size, j, none⟩ = some u := by
    rw [cell_of_row _ _ _ c t (0, 0) (heap_alloc_new w _), hu]
  exact (hb.cell (p := ⟨w.heap.size, j, none⟩) (by simp)).trans h1

theorem eqDisk_same (d : Dk) (v1 v2 : Value) (w : World) (h1 : DRd w v1 d) (h2 : DRd w v2 d) (hs : d.small) :
    Calls Try.prog 44 #[v1, v2] w fun e w' => e = .returned (.bool true) ∧ Below w.heap.size w w' := by
  obtain ⟨va, vb, rfl, ha, hb⟩ := h1
  obtain ⟨vc, vd, rfl, hc, hd⟩ := h2
  obtain ⟨s1, s2⟩ := hs
  have b0 : Below w.heap.size w ((w.alloc (.cells #[va, vb] 60)).alloc (.cells #[vc, vd] 60)) := ((Below.refl _ _).alloc (Nat.le_refl _) _).alloc (by simp) _
  have ha' := ha.later b0
  have hc' := hc.later b0
  have HB : Hid (∀ w', Below ((w.alloc (.cells #[va, vb] 60)).alloc (.cells #[vc, vd] 60)).heap.size ((w.alloc (.cells #[va, vb] 60)).alloc (.cells #[vc, vd] 60)) w' →
      Below w.heap.size w w' ∧ Rows' wrE w' vb d.cache ∧ Rows' wrE w' vd d.cache ∧ w'.cell? ⟨w.heap.size, 1, none⟩ = some vb ∧ w'.cell? ⟨w.heap.size + 1, 1, none⟩ = some vd) := by
    intro w' h
    have h' : Below w.heap.size w w' := b0.trans (h.mono b0.size)
    refine ⟨h', hb.later h', hd.later h', ?_, ?_⟩
    · exact box_cells w #[va, vb] 60 (((Below.refl _ _).alloc (Nat.le_refl _) _).trans (h.mono (by simp))) 1 vb rfl
    · have := box_cells (w.alloc (.cells #[va, vb] 60)) #[vc, vd] 60 h 1 vd rfl
      simpa using this
  clear hb hd ha hc
  go_enter Try.func44, Try.ntmps44
  go_wp2_with fail
  refine (eqStringS_same d.sec va vc _ ha' hc' (by omega)).mono ?_
  rintro e w1 ⟨rfl, hb1⟩
  obtain ⟨hb1', r1, r2, c1, c2⟩ := HB.out w1 hb1
  go_wp2_with fail
  refine (eqWriteS_same d.cache vb vd _ r1 r2 (by omega)).mono ?_
  rintro e w2 ⟨rfl, hb2⟩
  go_wp2
  go_ret
  exact ⟨rfl, hb1'.trans (hb2.mono hb1'.size)⟩

/-- A disk all marked. -/
def marksD (k : Nat) (d : Dk) : Dk := ⟨marksOf k d.sec.length, marksW (k + d.sec.length) d.cache.length⟩
def Dk.count (d : Dk) : Nat := d.sec.length + 2 * d.cache.length
theorem marksD_count (k : Nat) (d : Dk) : (marksD k d).count = d.count := by simp [marksD, Dk.count, marksOf_length, marksW_length]

set_option maxHeartbeats 400000 in
theorem markDisk_any (d : Dk) (v : Value) (k B T : Nat) (w : World) (h : DOwn B T w v d) (hk : 1 ≤ k) (hk2 : k + d.count ≤ 1099511627776) :
    Calls Try.prog 46 #[v, .int .i64 (k : Int)] w fun e w' => e = .returned (.int .i64 ((k + d.count : Nat) : Int)) ∧ DOwn B T w' v (marksD k d) ∧ Kept B T w w' := by
  obtain ⟨va, vb, rfl, h1, h2, h3⟩ := h
  unfold Dk.count at hk2
  have b0 : Below w.heap.size w (w.alloc (.cells #[va, vb] 60)) := (Below.refl _ _).alloc (Nat.le_refl _) _
  have k0 := Kept.of_below b0 B T
  have h1' := h1.later b0
  have hin : ∀ j, va.ownBlock = some j → B ≤ j ∧ j < T := fun j hj => ⟨(h1.1.own.lt j hj).1, h1.2.2 j hj⟩
  have hin2 : ∀ j, vb.ownBlock = some j → B ≤ j ∧ j < T := fun j hj => ⟨(h2.1.own.lt j hj).1, h2.2.2 j hj⟩
  have hT : T ≤ w.heap.size := h1.2.1
  have HB : Hid (∀ w', (w.alloc (.cells #[va, vb] 60)).grownBy w' va.ownBlock → SBuf B (w.alloc (.cells #[va, vb] 60)) w' va (marksOf k d.sec.length) →
      w'.cell? ⟨w.heap.size, 1, none⟩ = some vb ∧ LOwn wrE B T w' vb d.cache ∧ Kept B T w w') := by
    intro w' hg hb
    refine ⟨?_, (h2.later b0).grown hg ?_, k0.trans (Kept.of_grown hg hin)⟩
    · have : (w.alloc (.cells #[va, vb] 60)).cell? ⟨w.heap.size, 1, none⟩ = some vb := by
        rw [cell_of_row _ _ _ #[va, vb] _ (0, 0) (heap_alloc_new w _)]; rfl
      exact hg.cell this (fun e => by have := hin w.heap.size e.symm; omega)
    · rcases h3 with h3 | h3
      · cases hvb : vb.ownBlock with
        | none => exact .inl rfl
        | some j => exact .inr (by rw [h3]; simp)
      · exact .inr (Ne.symm h3)
  clear h2 k0
  go_enter Try.func46, Try.ntmps46
  go_wp2_with fail
  refine (markStringS_row d.sec va k B _ _ h1'.1.toS hk (by omega)).mono ?_
  rintro e w1 ⟨rfl, hs1, hg1⟩
  obtain ⟨c1, r1, k1⟩ := HB.out w1 hg1 hs1
  go_wp2_with fail
  refine (markWriteS_any d.cache vb (k + d.sec.length) B _ _ r1.1 (by omega) (by omega)).mono ?_
  rintro e w2 ⟨rfl, hs2, hg2⟩
  go_wp2
  go_ret
  have k2 := Kept.of_grown hg2 hin2
  refine ⟨congrArg (fun z : Int => Ending.returned (.int .i64 z)) (show (k : Int) + (d.sec.length : Int) + 2 * (d.cache.length : Int) = ((k + d.count : Nat) : Int) by unfold Dk.count; omega), ⟨va, vb, rfl, ?_, ?_, h3⟩, k1.trans k2⟩
  · have l1 : LOwn strE B T w1 va (marksOf k d.sec.length) := ⟨hs1.toR.here, Nat.le_trans hT k1.size, fun j hj => (hin j hj).2⟩
    exact l1.grown hg2 h3
  · exact ⟨hs2.here, Nat.le_trans hT (k1.trans k2).size, fun j hj => (hin2 j hj).2⟩


/-- A disk that comes in: its rows can be read. -/
def DIn (w : World) (v : Value) (d : Dk) : Prop := ∃ va vb, v = .agg #[va, vb] ∧ Rows' strE w va d.sec ∧ Rows' lwrE w vb d.cache ∧ d.sec.length ≤ 9223372036854775807 ∧ d.cache.length ≤ 9223372036854775807 ∧ (∀ s ∈ d.sec, s.size ≤ 9223372036854775807) ∧ ∀ x ∈ d.cache, x.text.size ≤ 9223372036854775807

theorem DIn.later {w w' : World} {v : Value} {d : Dk} (h : DIn w v d) (hb : Below w.heap.size w w') : DIn w' v d := by
  obtain ⟨va, vb, hv, h1, h2, h3⟩ := h
  exact ⟨va, vb, hv, h1.later hb, h2.later hb, h3⟩

/-- What szDisk leaves over. -/
def Dk.lean (d : Dk) (left : Int) : Prop := (d.sec.length : Int) ≤ left ∧ (d.cache.length : Int) ≤ left ∧ (∀ s ∈ d.sec, (s.size : Int) ≤ left) ∧ ∀ x ∈ d.cache, (x.text.size : Int) ≤ left

def SzD (left : Int) (d : Dk) (w : World) (e : Ending) (w' : World) : Prop :=
  ∃ r : Int, e = .returned (.int .i64 r) ∧ Below w.heap.size w w' ∧ r ≤ left ∧ -1 ≤ r ∧ (0 ≤ r → d.lean left)

set_option maxHeartbeats 400000 in
theorem szDisk_any (d : Dk) (v : Value) (left : Int) (w : World) (h : DIn w v d) (h0 : 0 ≤ left) (h1 : left ≤ 1048576) :
    Calls Try.prog 39 #[v, .int .i64 left] w fun e w' => SzD left d w e w' := by
  obtain ⟨va, vb, rfl, ha, hb, l1, l2, l3, l4⟩ := h
  have b0 : Below w.heap.size w (w.alloc (.cells #[va, vb] 49)) := (Below.refl _ _).alloc (Nat.le_refl _) _
  have ha' := ha.later b0
  have HB : Hid (∀ w', Below (w.alloc (.cells #[va, vb] 49)).heap.size (w.alloc (.cells #[va, vb] 49)) w' →
      Below w.heap.size w w' ∧ Rows' lwrE w' vb d.cache ∧ w'.cell? ⟨w.heap.size, 1, none⟩ = some vb) := by
    intro w' h
    have h' : Below w.heap.size w w' := b0.trans (h.mono b0.size)
    exact ⟨h', hb.later h', box_cells w #[va, vb] 49 h 1 vb rfl⟩
  clear hb ha
  go_enter Try.func39, Try.ntmps39
  go_wp2_with fail
  refine (szStringS_any d.sec va left _ ha' h0 h1 l1 l3).mono ?_
  rintro e w1 ⟨r, rfl, hb1, hr1, hr2, hr3⟩
  obtain ⟨hb1', r1, c1⟩ := HB.out w1 hb1
  by_cases hneg : r < 0
  · have HR := Lib.hid hr3
    clear hr3 l3 l4
    go_wp2
    go_ret
    exact ⟨-1, rfl, hb1', by omega, by omega, fun h => by omega⟩
  · have HR := Lib.hid (hr3 (by omega))
    clear hr3
    go_wp2_with fail
    refine (szWriteS_any d.cache vb r _ r1 (by omega) (by omega) l2 l4).mono ?_
    rintro e w2 ⟨q, rfl, hb2, hq1, hq2, hq3⟩
    have b2 := hb1'.trans (hb2.mono hb1'.size)
    have HQ := Lib.hid hq3
    clear hq3 l3 l4
    by_cases hneg2 : q < 0
    · go_wp2
      go_ret
      exact ⟨-1, rfl, b2, by omega, by omega, fun h => by omega⟩
    · go_wp2
      go_ret
      obtain ⟨q1, q2⟩ := HQ.out (by omega)
      exact ⟨q, rfl, b2, by omega, by omega, fun _ => ⟨HR.out.1, by omega, HR.out.2, fun x hx => by have := q2 x hx; omega⟩⟩

set_option maxHeartbeats 400000 in
theorem toDisk_any (d : Dk) (v : Value) (w : World) (h : DIn w v d) (hs : d.sec.length ≤ 1048576) (hc : d.cache.length ≤ 1048576) :
    Calls Try.prog 41 #[v] w fun e w' => ∃ v', e = .returned v' ∧ DOwn w.heap.size w'.heap.size w' v' d ∧ Below w.heap.size w w' := by
  obtain ⟨va, vb, rfl, ha, hb, _, _, _, _⟩ := h
  obtain ⟨hx0, hx1, hx2, bel3, hsz⟩ : Box (((w.alloc (.cells #[va, vb] 49)).alloc (.cells #[.slice none 0 0, .slice none 0 0] 60)).alloc (.cells #[.slice none 0 0, .slice none 0 0] 60)) w.heap.size #[va, vb] 49 ∧
      Box (((w.alloc (.cells #[va, vb] 49)).alloc (.cells #[.slice none 0 0, .slice none 0 0] 60)).alloc (.cells #[.slice none 0 0, .slice none 0 0] 60)) (w.heap.size + 1) #[.slice none 0 0, .slice none 0 0] 60 ∧
      Box (((w.alloc (.cells #[va, vb] 49)).alloc (.cells #[.slice none 0 0, .slice none 0 0] 60)).alloc (.cells #[.slice none 0 0, .slice none 0 0] 60)) (w.heap.size + 1 + 1) #[.slice none 0 0, .slice none 0 0] 60 ∧
      Below w.heap.size w (((w.alloc (.cells #[va, vb] 49)).alloc (.cells #[.slice none 0 0, .slice none 0 0] 60)).alloc (.cells #[.slice none 0 0, .slice none 0 0] 60)) ∧
      (((w.alloc (.cells #[va, vb] 49)).alloc (.cells #[.slice none 0 0, .slice none 0 0] 60)).alloc (.cells #[.slice none 0 0, .slice none 0 0] 60)).heap.size = w.heap.size + 3 := by
    have e1 : (w.alloc (.cells #[va, vb] 49)).heap.size = w.heap.size + 1 := by simp
    have e2 : ((w.alloc (.cells #[va, vb] 49)).alloc (.cells #[.slice none 0 0, .slice none 0 0] 60)).heap.size = w.heap.size + 1 + 1 := by simp
    have q0 := Box.new w #[va, vb] 49
    have q1 := Box.new (w.alloc (.cells #[va, vb] 49)) #[.slice none 0 0, .slice none 0 0] 60
    have q2 := Box.new ((w.alloc (.cells #[va, vb] 49)).alloc (.cells #[.slice none 0 0, .slice none 0 0] 60)) #[.slice none 0 0, .slice none 0 0] 60
    rw [e1] at q1
    rw [e2] at q2
    refine ⟨(q0.later ((Below.refl _ _).alloc (Nat.le_refl _) _)).later ((Below.refl _ _).alloc (Nat.le_refl _) _), q1.later ((Below.refl _ _).alloc (Nat.le_refl _) _), q2, (((Below.refl _ _).alloc (Nat.le_refl _) _).alloc (by simp) _).alloc (by simp; omega) _, by simp⟩
  go_enter Try.func41, Try.ntmps41
  go_wp2_with fail
  generalize (((w.alloc (.cells #[va, vb] 49)).alloc (.cells #[.slice none 0 0, .slice none 0 0] 60)).alloc (.cells #[.slice none 0 0, .slice none 0 0] 60)) = w3 at hx0 hx1 hx2 bel3 hsz ⊢
  refine (toStringS_any d.sec va _ (ha.later bel3) hs).mono ?_
  rintro e w4 ⟨v1, rfl, r1⟩
  obtain ⟨a1, p1, rfl⟩ := r1.form
  have k4 := r1.bel
  have c0 := (hx0.later k4).cell 1 vb rfl
  have c2 := (hx2.later k4).cell 0 (.slice none 0 0) rfl
  have f2 := (hx2.later k4).loose 0
  have bel4 : Below w.heap.size w w4 := bel3.trans (k4.mono bel3.size)
  have x0 := (hx0.later k4).other (g := w.heap.size + 1 + 1) (by omega) 0 (.slice a1 d.sec.length p1)
  have x1 := (hx1.later k4).other (g := w.heap.size + 1 + 1) (by omega) 0 (.slice a1 d.sec.length p1)
  have x2 := (hx2.later k4).set 0 (.slice a1 d.sec.length p1)
  have l1 := r1.lown.store (w.heap.size + 1 + 1) 0 (.slice a1 d.sec.length p1) (by omega)
  have b5 : Below w.heap.size w (w4.setCell ⟨w.heap.size + 1 + 1, 0, none⟩ (.slice a1 d.sec.length p1)) := bel4.setCell (p := ⟨w.heap.size + 1 + 1, 0, none⟩) (by simp; omega) _
  have hb5 := hb.later b5
  have s5 : (w4.setCell ⟨w.heap.size + 1 + 1, 0, none⟩ (.slice a1 d.sec.length p1)).heap.size = w4.heap.size := by simp
  have L1 := Lib.hid l1
  clear ha hb hx0 hx1 hx2 r1 l1
  go_wp2_with fail
  clear c0 c2 f2
  generalize w4.setCell ⟨w.heap.size + 1 + 1, 0, none⟩ (.slice a1 d.sec.length p1) = w5 at x0 x1 x2 L1 b5 hb5 s5 ⊢
  refine (toWriteS_any d.cache vb _ hb5 hc).mono ?_
  rintro e w6 ⟨v2, rfl, r2⟩
  obtain ⟨a2, p2, rfl⟩ := r2.form
  have k6 := r2.bel
  have b6 : Below w.heap.size w w6 := b5.trans (k6.mono b5.size)
  have s6 : w5.heap.size ≤ w6.heap.size := k6.size
  have s4 : w3.heap.size ≤ w4.heap.size := k4.size
  have y1 := x1.later k6
  have y2 := x2.later k6
  have c10 := y1.cell 0 (.slice none 0 0) rfl
  have c11 := y1.cell 1 (.slice none 0 0) rfl
  have c20 := y2.cell 0 (.slice a1 d.sec.length p1) rfl
  have c21 := y2.cell 1 (.slice none 0 0) rfl
  have f10 := y1.loose 0
  have f11 := y1.loose 1
  have f21 := y2.loose 1
  have L6 := Lib.hid (L1.out.later k6)
  have R2 := Lib.hid r2.lown
  clear x0 x1 x2 y1 y2 r2 hb5 L1
  go_wp2
  have q1 := (L6.out.store (w.heap.size + 1 + 1) 1 (.slice a2 d.cache.length p2) (by omega)).store (w.heap.size + 1) 0 (.slice a1 d.sec.length p1) (by omega) |>.store (w.heap.size + 1) 1 (.slice a2 d.cache.length p2) (by omega)
  have q2 := (R2.out.store (w.heap.size + 1 + 1) 1 (.slice a2 d.cache.length p2) (by omega)).store (w.heap.size + 1) 0 (.slice a1 d.sec.length p1) (by omega) |>.store (w.heap.size + 1) 1 (.slice a2 d.cache.length p2) (by omega)
  have b7 := ((b6.setCell (p := ⟨w.heap.size + 1 + 1, 1, none⟩) (by simp; omega) (.slice a2 d.cache.length p2)).setCell (p := ⟨w.heap.size + 1, 0, none⟩) (by simp) (.slice a1 d.sec.length p1)).setCell (p := ⟨w.heap.size + 1, 1, none⟩) (by simp) (.slice a2 d.cache.length p2)
  refine bodyPost_ret (v := .agg #[.slice a1 d.sec.length p1, .slice a2 d.cache.length p2]) ?_ rfl ⟨_, rfl, ?_, b7⟩
  · simp [results, Try.results41, go_sem, c10, c11]
  · have e7 := b7.size
    refine ⟨_, _, rfl, (q1.deeper (by omega)).wider (by simp; omega) (Nat.le_refl _), (q2.deeper (by omega)).wider (by simp) (Nat.le_refl _), ?_⟩
    cases ha1 : (Value.slice a1 d.sec.length p1).ownBlock with
    | none => exact .inl rfl
    | some j =>
      refine .inr fun e => ?_
      have j1 := q1.2.2 j ha1
      have j2 := (q2.1.own.lt j e.symm).1
      omega

end Go.Proofs.Ytmahicpheimnjaa

/- Disks compared: laws.sameTexts and laws.sameDisk of what is alike. -/
namespace Go.Proofs.Ytmahicpheimnjaa
open Go.RowKit

theorem write_fields : Try.prog.underlying 170 = some (.struct (Try.prog.fieldsOf 170)) := by kernel_rfl

theorem run_write_equal (n : Int) (s : ByteArray) (w : World) : (Op.equalIn 10000 170 (.agg #[.int .i64 n, .string s]) (.agg #[.int .i64 n, .string s])).run Try.prog w = .ok true w := by
  rw [run_equalIn_agg _ 9999 _ _ _ write_fields (by kernel_rfl)]
  simp [go_sem, Op.eqFields, Try.underlying170, Program.fieldsOf]
theorem run_write_neq (n : Int) (s : ByteArray) (w : World) : (binOp .neq 170 (.agg #[.int .i64 n, .string s]) (.agg #[.int .i64 n, .string s])).run Try.prog w = .ok (.bool false) w := by
  rw [run_neq_struct, run_write_equal]; rfl

set_option maxRecDepth 100000 in
set_option maxHeartbeats 1000000 in
theorem sameTexts_same (l : List ByteArray) (va vb : Value) (w : World) (ha : Strs w va l) (hb : Strs w vb l) (hl : l.length ≤ 1099511627776) :
    Calls Try.prog 11 #[va, vb] w fun e w' => e = .returned (.bool true) ∧ Below w.heap.size w w' := by
  rcases ha.ways with ⟨rfl, a, c, rfl⟩ | ⟨hne, ga, ca, rfl, hca, hga, hcla⟩
  · rcases hb.ways with ⟨_, b, d, rfl⟩ | ⟨hne, _⟩
    · clear ha hb
      go_enter Try.func11, Try.ntmps11
      go_wp2
      go_loop [5] (fun iv => iv = .int .i64 0) (fun _ => 0)
      case atStart => rfl
      case round =>
        obtain rfl := hrel
        go_wp2
        go_ret
        exact ⟨rfl, Below.refl _ _⟩
    · exact absurd rfl hne
  · rcases hb.ways with ⟨e, _⟩ | ⟨_, gb, cb, rfl, hcb, hgb, hclb⟩
    · exact absurd e hne
    · clear ha hb
      have HA : Hid (∀ j b, l[j]? = some b → w.cell? ⟨ga, j, none⟩ = some (.string b)) := hcla
      have HB : Hid (∀ j b, l[j]? = some b → w.cell? ⟨gb, j, none⟩ = some (.string b)) := hclb
      clear hcla hclb
      go_enter Try.func11, Try.ntmps11
      go_wp2
      go_loopw [5] (fun iv wr => ∃ i : Nat, i ≤ l.length ∧ iv = .int .i64 (i : Int) ∧ Below w.heap.size w wr) (fun iv _ => l.length - (intOf iv).toNat)
      case atStart => exact ⟨0, by omega, rfl, Below.refl _ _⟩
      case round =>
        obtain ⟨i, hi, rfl, hbel⟩ := hrel
        by_cases hlt : i < l.length
        · have hg : l[i]? = some l[i] := List.getElem?_eq_getElem hlt
          have h1 := (hbel.cell (p := ⟨ga, i, none⟩) hga).trans (HA.out i _ hg)
          have h2 := (hbel.cell (p := ⟨gb, i, none⟩) hgb).trans (HB.out i _ hg)
          generalize l[i] = t at *
          have hi0 : (0 : Int) ≤ (i : Int) := by omega
          have hi1 : (i : Int) < (l.length : Int) := by omega
          clear hg
          go_wp2
          go_quiet (fail)
          go_wp2
          go_roundw
          case rel => exact ⟨i + 1, by omega, by go_num, below_drewN hbel _⟩
          case measure => simp [intOf]; omega
        · go_wp2
          go_ret
          exact ⟨rfl, hbel⟩


end Go.Proofs.Ytmahicpheimnjaa
