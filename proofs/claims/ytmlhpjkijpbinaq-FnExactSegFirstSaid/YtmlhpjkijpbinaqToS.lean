/- Lists that come in: how great they are (szStringS, szWriteS), and copies of them in memory of the call's own (toStringS, toWriteS, toIntS). -/
import Derived.Test.YtmlhpjkijpbinaqMarksW
import Derived.Test.YtmlhpjkijpbinaqKitO
namespace Go.Proofs.Ytmlhpjkijpbinaq
open Go.RowKit

/-- What a size function leaves over: less than nothing, or something, and then each part is small. -/
def SzR {α : Type} (size : α → Nat) (left : Int) (l : List α) (w : World) (e : Ending) (w' : World) : Prop :=
  ∃ r : Int, e = .returned (.int .i64 r) ∧ Below w.heap.size w w' ∧ r ≤ left ∧ -1 ≤ r ∧ (0 ≤ r → (l.length : Int) ≤ left ∧ ∀ x ∈ l, (size x : Int) ≤ left)

set_option maxRecDepth 100000 in
set_option maxHeartbeats 1000000 in
theorem szStringS_any (l : List ByteArray) (v : Value) (left : Int) (w : World) (hb : Rows' strE w v l) (h0 : 0 ≤ left) (h1 : left ≤ 1048576) (hl : l.length ≤ 9223372036854775807) (hs : ∀ s ∈ l, s.size ≤ 9223372036854775807) :
    Calls Try.prog 14 #[v, .int .i64 left] w fun e w' => SzR ByteArray.size left l w e w' := by
  rcases hb.ways with ⟨rfl, a, c, rfl⟩ | ⟨hne, g, off, cap, rfl, hca, hg, hcl⟩
  · clear hb
    go_enter Try.func14, Try.ntmps14
    go_wp2
    go_loop [1, 5] (fun kv iv => kv = .int .i64 left ∧ iv = .int .i64 0) (fun _ _ => 0)
    case atStart => exact ⟨rfl, rfl⟩
    case round =>
      obtain ⟨rfl, rfl⟩ := hrel
      go_wp2
      go_ret
      exact ⟨left, rfl, Below.refl _ _, by omega, by omega, fun _ => ⟨by simpa using h0, by simp⟩⟩
  · have HC := Lib.hid hcl
    have HS := Lib.hid hs
    clear hcl hb hne hs
    by_cases hbig : left < (l.length : Int)
    · have hn : left - (l.length : Int) < 0 := by omega
      go_enter Try.func14, Try.ntmps14
      go_wp2
      go_ret
      exact ⟨-1, rfl, Below.refl _ _, by omega, by omega, fun h => by omega⟩
    · have hn : ¬ left - (l.length : Int) < 0 := by omega
      go_enter Try.func14, Try.ntmps14
      go_wp2
      go_loopw [1, 5] (fun kv iv wr => ∃ (i : Nat) (r : Int), i ≤ l.length ∧ iv = .int .i64 (i : Int) ∧ kv = .int .i64 r ∧ 0 ≤ r ∧ r ≤ left ∧ (∀ x ∈ l.take i, (x.size : Int) ≤ left) ∧ wr = w) (fun _ iv _ => l.length - (intOf iv).toNat)
      case atStart => exact ⟨0, _, by omega, rfl, rfl, by omega, by omega, by simp, rfl⟩
      case round =>
        obtain ⟨i, r, hi, rfl, rfl, hr0, hr1, hall, rfl⟩ := hrel
        by_cases hlt : i < l.length
        · have hat := List.getElem?_eq_getElem hlt
          have hsz := HS.out _ (List.getElem_mem hlt)
          have c0 : wr.cell? ⟨g, off + i, none⟩ = some (.string l[i]) := by
            have := HC.out i _ hat 0 _ rfl
            rw [show strE.sz = 1 from rfl, Nat.mul_one, Nat.add_zero] at this
            exact this
          have htk : l.take (i + 1) = l.take i ++ [l[i]] := List.take_succ_eq_append_getElem hlt
          have HT := Lib.hid htk
          have HA := Lib.hid hall
          clear hat htk hall
          generalize l[i] = t at *
          by_cases hneg : r - (t.size : Int) < 0
          · go_wp2
            go_ret
            exact ⟨-1, rfl, Below.refl _ _, by omega, by omega, fun h => by omega⟩
          · go_wp2
            go_roundw
            case rel => exact ⟨i + 1, r - (t.size : Int), by omega, by go_num, by go_num, by omega, by omega, by
              rw [HT.out]
              intro x hx
              rcases List.mem_append.1 hx with h | h
              · exact HA.out x h
              · simp at h; subst h; omega, trivial⟩
            case measure => simp [intOf]; omega
        · go_wp2
          go_ret
          have : l.take i = l := List.take_of_length_le (by omega)
          rw [this] at hall
          exact ⟨r, rfl, Below.refl _ _, hr1, by omega, fun _ => ⟨by omega, hall⟩⟩

theorem szWrite_any (n : Int) (t : ByteArray) (left : Int) (w : World) (h0 : 0 ≤ left) (h1 : left ≤ 1048576) (hs : t.size ≤ 9223372036854775807) :
    Calls Try.prog 22 #[.agg #[.int .i64 n, .string t], .int .i64 left] w fun e w' => e = .returned (.int .i64 (if left - (t.size : Int) < 0 then -1 else left - (t.size : Int))) ∧ Below w.heap.size w w' := by
  by_cases hn : left - (t.size : Int) < 0
  · rw [if_pos hn]
    go_enter Try.func22, Try.ntmps22
    go_wp2
    go_ret
    exact ⟨rfl, (Below.refl _ _).alloc (Nat.le_refl _) _⟩
  · rw [if_neg hn]
    go_enter Try.func22, Try.ntmps22
    go_wp2
    go_ret
    exact ⟨rfl, (Below.refl _ _).alloc (Nat.le_refl _) _⟩

set_option maxRecDepth 100000 in
set_option maxHeartbeats 1000000 in
theorem szWriteS_any (l : List Wr) (v : Value) (left : Int) (w : World) (hb : Rows' lwrE w v l) (h0 : 0 ≤ left) (h1 : left ≤ 1048576) (hl : l.length ≤ 9223372036854775807) (hs : ∀ x ∈ l, x.text.size ≤ 9223372036854775807) :
    Calls Try.prog 15 #[v, .int .i64 left] w fun e w' => SzR (fun x : Wr => x.text.size) left l w e w' := by
  rcases hb.ways with ⟨rfl, a, c, rfl⟩ | ⟨hne, g, off, cap, rfl, hca, hg, hcl⟩
  · clear hb
    go_enter Try.func15, Try.ntmps15
    go_wp2
    go_loop [1, 5] (fun kv iv => kv = .int .i64 left ∧ iv = .int .i64 0) (fun _ _ => 0)
    case atStart => exact ⟨rfl, rfl⟩
    case round =>
      obtain ⟨rfl, rfl⟩ := hrel
      go_wp2
      go_ret
      exact ⟨left, rfl, Below.refl _ _, by omega, by omega, fun _ => ⟨by simpa using h0, by simp⟩⟩
  · have HC := Lib.hid hcl
    have HS := Lib.hid hs
    clear hcl hb hne hs
    by_cases hbig : left < (l.length : Int)
    · have hn : left - (l.length : Int) < 0 := by omega
      go_enter Try.func15, Try.ntmps15
      go_wp2
      go_ret
      exact ⟨-1, rfl, Below.refl _ _, by omega, by omega, fun h => by omega⟩
    · have hn : ¬ left - (l.length : Int) < 0 := by omega
      go_enter Try.func15, Try.ntmps15
      go_wp2
      go_loopw [1, 5] (fun kv iv wr => ∃ (i : Nat) (r : Int), i ≤ l.length ∧ iv = .int .i64 (i : Int) ∧ kv = .int .i64 r ∧ 0 ≤ r ∧ r ≤ left ∧ (∀ x ∈ l.take i, (x.text.size : Int) ≤ left) ∧ Below w.heap.size w wr) (fun _ iv _ => l.length - (intOf iv).toNat)
      case atStart => exact ⟨0, _, by omega, rfl, rfl, by omega, by omega, by simp, Below.refl _ _⟩
      case round =>
        obtain ⟨i, r, hi, rfl, rfl, hr0, hr1, hall, hbel⟩ := hrel
        by_cases hlt : i < l.length
        · have hat := List.getElem?_eq_getElem hlt
          have hsz := HS.out _ (List.getElem_mem hlt)
          obtain ⟨c0, c1⟩ := wr_cells (E := lwrE) rfl rfl HC.out hg hbel i _ hat
          have htk : l.take (i + 1) = l.take i ++ [l[i]] := List.take_succ_eq_append_getElem hlt
          have HT := Lib.hid htk
          have HA := Lib.hid hall
          clear hat htk hall
          generalize l[i] = x at *
          obtain ⟨n, t⟩ := x
          simp only at c0 c1 hsz
          by_cases hneg : r - (t.size : Int) < 0
          · go_wp2_with (go_at_call 22; refine (szWrite_any n t r _ hr0 (by omega) hsz).mono ?_; rintro e w1 ⟨rfl, hb1⟩; rw [if_pos hneg])
            go_ret
            exact ⟨-1, rfl, hbel.trans (hb1.mono hbel.size), by omega, by omega, fun h => by omega⟩
          · go_wp2_with (go_at_call 22; refine (szWrite_any n t r _ hr0 (by omega) hsz).mono ?_; rintro e w1 ⟨rfl, hb1⟩; rw [if_neg hneg])
            go_roundw
            case rel => exact ⟨i + 1, r - (t.size : Int), by omega, by go_num, by go_num, by omega, by omega, by
              rw [HT.out]
              intro x hx
              rcases List.mem_append.1 hx with h | h
              · exact HA.out x h
              · simp at h; subst h; simp only; omega, hbel.trans (hb1.mono hbel.size)⟩
            case measure => simp [intOf]; omega
        · go_wp2
          go_ret
          have : l.take i = l := List.take_of_length_le (by omega)
          rw [this] at hall
          exact ⟨r, rfl, hbel, hr1, by omega, fun _ => ⟨by omega, hall⟩⟩

theorem toWrite_any (n : Int) (t : ByteArray) (w : World) :
    Calls Try.prog 24 #[.agg #[.int .i64 n, .string t]] w fun e w' => e = .returned (.agg #[.int .i64 n, .string t]) ∧ Below w.heap.size w w' := by
  go_enter Try.func24, Try.ntmps24
  go_wp2
  refine bodyPost_ret (v := .agg #[.int .i64 n, .string t]) (by simp [results, Try.results24, go_sem]) rfl ⟨rfl, ?_⟩
  exact (((Below.refl _ _).alloc (Nat.le_refl _) _).alloc (by simp) _).alloc (by simp; omega) _

/-- The first i elements of l, then nothing yet. -/
def copyTo {α : Type} (z : α) (l : List α) (i : Nat) : List α := l.take i ++ List.replicate (l.length - i) z
theorem copyTo_length {α : Type} {z : α} {l : List α} {i : Nat} (h : i ≤ l.length) : (copyTo z l i).length = l.length := by simp [copyTo]; omega
theorem copyTo_zero {α : Type} (z : α) (l : List α) : copyTo z l 0 = List.replicate l.length z := by simp [copyTo]
theorem copyTo_all {α : Type} {z : α} {l : List α} {i : Nat} (h : l.length ≤ i) : copyTo z l i = l := by
  rw [copyTo, List.take_of_length_le h, show l.length - i = 0 by omega]; simp
theorem copyTo_at {α : Type} {z : α} {l : List α} {i : Nat} (h : i < l.length) : (copyTo z l i)[i]? = some z := by
  have hm : (l.take i).length = i := by simp; omega
  rw [copyTo, List.getElem?_append_right (by omega), hm, Nat.sub_self, List.getElem?_replicate, if_pos (by omega)]
theorem copyTo_set {α : Type} {z : α} {l : List α} {i : Nat} (h : i < l.length) : (copyTo z l i).set i l[i] = copyTo z l (i + 1) := by
  have hm : (l.take i).length = i := by simp; omega
  rw [copyTo, List.set_append_right _ _ (by omega), hm, Nat.sub_self, copyTo, List.take_succ_eq_append_getElem h, List.append_assoc]
  have : l.length - i = (l.length - (i + 1)) + 1 := by omega
  rw [this, List.replicate_succ]
  rfl

theorem Rows'.at {α : Type} {E : Enc α} {w : World} {a : Option Addr} {cap : Nat} {l : List α} (h : Rows' E w (.slice a l.length cap) l) (i : Nat) (hi : i < l.length) :
    ∃ g off : Nat, a = some ⟨g, off, none⟩ ∧ ∀ w', Below w.heap.size w w' → ∀ k u, (E.f l[i])[k]? = some u → w'.cell? ⟨g, off + i * E.sz + k, none⟩ = some u := by
  rcases h.ways with ⟨h0, _⟩ | ⟨_, g, off, c, hv, hc, hg, hcl⟩
  · rw [h0] at hi; simp at hi
  · simp only [Value.slice.injEq] at hv
    exact ⟨g, off, hv.1, fun w' hb k u hu => (hb.cell (p := ⟨g, off + i * E.sz + k, none⟩) hg).trans (hcl i _ (List.getElem?_eq_getElem hi) k u hu)⟩

set_option maxRecDepth 100000 in
set_option maxHeartbeats 1000000 in
theorem toStringS_any (l : List ByteArray) (v : Value) (w : World) (hb : Rows' strE w v l) (hl : l.length ≤ 1048576) :
    Calls Try.prog 17 #[v] w fun e w' => ∃ v', e = .returned v' ∧ RBuf strE w.heap.size w w' v' l := by
  obtain ⟨a, cap, rfl⟩ : ∃ (a : Option Addr) (cap : Nat), v = .slice a l.length cap := by
    rcases hb with ⟨rfl, a, c, rfl⟩ | ⟨g, off, c, rfl, _⟩
    · exact ⟨a, c, rfl⟩
    · exact ⟨_, c, rfl⟩
  have HB := Lib.hid hb
  clear hb
  go_enter Try.func17, Try.ntmps17
  go_wp2_with (at_make; refine wpList_make_rows rfl _ _ strE rfl .i64 .i64 _ _ l.length rfl rfl rfl rfl (by show 17 * l.length ≤ _; omega) ?_; intro w1 hr1 hs1)
  go_loopw [4] (fun iv wr => ∃ i : Nat, i ≤ l.length ∧ iv = .int .i64 (i : Int) ∧ RBuf strE w.heap.size w wr (.slice (some ⟨w.heap.size, 0, none⟩) l.length l.length) (copyTo strE.z0 l i)) (fun iv _ => l.length - (intOf iv).toNat)
  case atStart => exact ⟨0, by omega, rfl, by rw [copyTo_zero]; exact hr1⟩
  case round =>
    obtain ⟨i, hi, rfl, hbr⟩ := hrel
    by_cases hlt : i < l.length
    · obtain ⟨g, off, rfl, hcl⟩ := HB.out.at i hlt
      have hcs := hcl wr hbr.bel 0 _ rfl
      rw [show strE.sz = 1 from rfl, Nat.mul_one, Nat.add_zero] at hcs
      have hi0 : (0 : Int) ≤ (i : Int) := by omega
      have hi1 : (i : Int) < (l.length : Int) := by omega
      have hml := copyTo_length (z := strE.z0) hi
      have hms := copyTo_set (z := strE.z0) hlt
      have hat := copyTo_at (z := strE.z0) hlt
      rw [← hml] at hbr
      have cd : wr.cell? ⟨w.heap.size, i, none⟩ = some (.string strE.z0) := by
        have := hbr.cell rfl i _ hat 0 _ rfl
        rw [show strE.sz = 1 from rfl, Nat.mul_one, Nat.add_zero] at this
        exact this
      have fd := hbr.loose i
      have hst := hbr.stored i _ l[i] hat 0 (by decide) (.string l[i]) rfl
      rw [show strE.sz = 1 from rfl, Nat.mul_one, Nat.add_zero, hms, hml] at hst
      clear hcl hbr hat hml hms
      generalize l[i] = t at *
      go_wp2
      go_roundw
      case rel => exact ⟨i + 1, by omega, by go_num, hst⟩
      case measure => simp [intOf]; omega
    · go_wp2
      go_ret
      rw [copyTo_all (by omega)] at hbr
      exact ⟨_, rfl, hbr⟩

/-- A whole write is stored. -/
theorem RBuf.put2 {B : Nat} {w0 w : World} {g cap : Nat} {l : List Wr} (h : RBuf wrE B w0 w (.slice (some ⟨g, 0, none⟩) l.length cap) l) (i : Nat) (x : Wr) (hi : l[i]? = some x) (n : Int) (t : ByteArray) :
    RBuf wrE B w0 ((w.setCell ⟨g, i * 2, none⟩ (.int .i64 n)).setCell ⟨g, i * 2 + 1, none⟩ (.string t)) (.slice (some ⟨g, 0, none⟩) l.length cap) (l.set i ⟨n, t⟩) := by
  have hlt : i < l.length := (List.getElem?_eq_some_iff.1 hi).1
  have st0 : RBuf wrE B w0 (w.setCell ⟨g, i * 2, none⟩ (.int .i64 n)) (.slice (some ⟨g, 0, none⟩) l.length cap) (l.set i ⟨n, x.text⟩) :=
    h.stored i _ ⟨n, x.text⟩ hi 0 (by decide) (.int .i64 n) rfl
  have hat1 : (l.set i ⟨n, x.text⟩)[i]? = some ⟨n, x.text⟩ := List.getElem?_set_self hlt
  have hl1 : (l.set i (⟨n, x.text⟩ : Wr)).length = l.length := by simp
  rw [← hl1] at st0
  have st2 := st0.stored i _ ⟨n, t⟩ hat1 1 (by decide) (.string t) rfl
  rw [List.set_set, hl1] at st2
  exact st2

set_option maxRecDepth 100000 in
set_option maxHeartbeats 1000000 in
theorem toWriteS_any (l : List Wr) (v : Value) (w : World) (hb : Rows' lwrE w v l) (hl : l.length ≤ 1048576) :
    Calls Try.prog 18 #[v] w fun e w' => ∃ v', e = .returned v' ∧ RBuf wrE w.heap.size w w' v' l := by
  obtain ⟨a, cap, rfl⟩ : ∃ (a : Option Addr) (cap : Nat), v = .slice a l.length cap := by
    rcases hb with ⟨rfl, a, c, rfl⟩ | ⟨g, off, c, rfl, _⟩
    · exact ⟨a, c, rfl⟩
    · exact ⟨_, c, rfl⟩
  have HB := Lib.hid hb
  clear hb
  go_enter Try.func18, Try.ntmps18
  go_wp2_with (at_make; refine wpList_make_rows rfl _ _ wrE rfl .i64 .i64 _ _ l.length rfl rfl rfl rfl (by show 25 * l.length ≤ _; omega) ?_; intro w1 hr1 hs1)
  go_loopw [4] (fun iv wr => ∃ i : Nat, i ≤ l.length ∧ iv = .int .i64 (i : Int) ∧ RBuf wrE w.heap.size w wr (.slice (some ⟨w.heap.size, 0, none⟩) l.length l.length) (copyTo wrE.z0 l i)) (fun iv _ => l.length - (intOf iv).toNat)
  case atStart => exact ⟨0, by omega, rfl, by rw [copyTo_zero]; exact hr1⟩
  case round =>
    obtain ⟨i, hi, rfl, hbr⟩ := hrel
    by_cases hlt : i < l.length
    · obtain ⟨g, off, rfl, hcl⟩ := HB.out.at i hlt
      have c0 : wr.cell? ⟨g, off + i * 2, none⟩ = some (.int .i64 l[i].at_) := hcl wr hbr.bel 0 _ rfl
      have c1 : wr.cell? ⟨g, off + i * 2 + 1, none⟩ = some (.string l[i].text) := hcl wr hbr.bel 1 _ rfl
      have hi0 : (0 : Int) ≤ (i : Int) := by omega
      have hi1 : (i : Int) < (l.length : Int) := by omega
      have hml := copyTo_length (z := wrE.z0) hi
      have hms := copyTo_set (z := wrE.z0) hlt
      have hat := copyTo_at (z := wrE.z0) hlt
      rw [← hml] at hbr
      have HF : Hid (∀ w1, Below wr.heap.size wr w1 → w1.cell? ⟨w.heap.size, i * 2, none⟩ = some (.int .i64 0) ∧ w1.cell? ⟨w.heap.size, i * 2 + 1, none⟩ = some (.string ⟨#[]⟩) ∧ w1.frozen? ⟨w.heap.size, i * 2, none⟩ = false ∧ w1.frozen? ⟨w.heap.size, i * 2 + 1, none⟩ = false) := by
        intro w1 hb1
        have h1 := hbr.later hb1
        exact ⟨h1.cell rfl i _ hat 0 _ rfl, h1.cell rfl i _ hat 1 _ rfl, h1.loose _, h1.loose _⟩
      generalize hx : l[i] = x at *
      obtain ⟨n, t⟩ := x
      simp only at c0 c1
      clear hcl
      go_wp2_with (go_at_call 24; refine (toWrite_any n t _).mono ?_; rintro e w1 ⟨rfl, hb1⟩; obtain ⟨d0, d1, f0, f1⟩ := HF.out w1 hb1)
      have hp := (hbr.later hb1).put2 i _ hat n t
      rw [hms, hml] at hp
      go_roundw
      case rel => exact ⟨i + 1, by omega, by go_num, hp⟩
      case measure => simp [intOf]; omega
    · go_wp2
      go_ret
      rw [copyTo_all (by omega)] at hbr
      exact ⟨_, rfl, hbr⟩

end Go.Proofs.Ytmlhpjkijpbinaq
