/- Texts of our own, joined. -/
import Derived.Test.YtodldamjleehlaaJa
import Derived.Deep.Slices
import Derived.Deep.QuietTactic
import Derived.BigQuiet
import Derived.ProofKit
import Derived.Laws.StructEq
import Derived.WalkSpells
import Derived.WalkSmall
import Derived.Lib.Hide
/- Lists of numbers in the exact laws: a copy, two alike, marks; and one that comes in. -/
namespace Go.Proofs.Ytodldamjleehlaa
open Go.RowKit Go.ChangeShapes Go.WideShapes Go.ChangeAt Go.Deep Go.Joins

set_option maxRecDepth 100000 in
set_option maxHeartbeats 1000000 in
theorem toIntS_any (l : List Int) (v : Value) (w : World) (hb : Rows' intE w v l) (hl : l.length ≤ 1048576) :
    Calls Try.prog 12 #[v] w fun e w' => ∃ v', e = .returned v' ∧ RBuf intE w.heap.size w w' v' l := by
  obtain ⟨a, cap, rfl⟩ : ∃ (a : Option Addr) (cap : Nat), v = .slice a l.length cap := by
    rcases hb with ⟨rfl, a, c, rfl⟩ | ⟨g, off, c, rfl, _⟩
    · exact ⟨a, c, rfl⟩
    · exact ⟨_, c, rfl⟩
  have HB := Lib.hid hb
  clear hb
  go_enter Try.func12, Try.ntmps12
  go_wp2_with (at_make; refine wpList_make_rows rfl _ _ intE rfl .i64 .i64 _ _ l.length rfl rfl rfl rfl (by show 9 * l.length ≤ _; omega) ?_; intro w1 hr1 hs1)
  go_loopw [4] (fun iv wr => ∃ i : Nat, i ≤ l.length ∧ iv = .int .i64 (i : Int) ∧ RBuf intE w.heap.size w wr (.slice (some ⟨w.heap.size, 0, none⟩) l.length l.length) (copyTo intE.z0 l i)) (fun iv _ => l.length - (intOf iv).toNat)
  case atStart => exact ⟨0, by omega, rfl, by rw [copyTo_zero]; exact hr1⟩
  case round =>
    obtain ⟨i, hi, rfl, hbr⟩ := hrel
    by_cases hlt : i < l.length
    · obtain ⟨g, off, rfl, hcl⟩ := HB.out.at i hlt
      have hcs := hcl wr hbr.bel 0 _ rfl
      rw [show intE.sz = 1 from rfl, Nat.mul_one, Nat.add_zero] at hcs
      have hi0 : (0 : Int) ≤ (i : Int) := by omega
      have hi1 : (i : Int) < (l.length : Int) := by omega
      have hml := copyTo_length (z := intE.z0) hi
      have hms := copyTo_set (z := intE.z0) hlt
      have hat := copyTo_at (z := intE.z0) hlt
      rw [← hml] at hbr
      have cd : wr.cell? ⟨w.heap.size, i, none⟩ = some (.int .i64 intE.z0) := by
        have := hbr.cell rfl i _ hat 0 _ rfl
        rw [show intE.sz = 1 from rfl, Nat.mul_one, Nat.add_zero] at this
        exact this
      have fd := hbr.loose i
      have hst := hbr.stored i _ l[i] hat 0 (by decide) (.int .i64 l[i]) rfl
      rw [show intE.sz = 1 from rfl, Nat.mul_one, Nat.add_zero, hms, hml] at hst
      clear hcl hbr hat hml hms
      generalize l[i] = t at *
      go_wp2
      go_roundw
      case rel => exact ⟨i + 1, by omega, by go_num, hst⟩
      case measure => simp [intOf]; omega
    · go_wp2
      go_ret
      rw [copyTo_all (by omega)] at hbr
      exact ⟨_, rfl, hbr⟩

set_option maxRecDepth 100000 in
set_option maxHeartbeats 1000000 in
theorem eqIntS_same (l : List Int) (va vb : Value) (w : World) (ha : Rows' intE w va l) (hb : Rows' intE w vb l) (hl : l.length ≤ 1099511627776) :
    Calls Try.prog 16 #[va, vb] w fun e w' => e = .returned (.bool true) ∧ Below w.heap.size w w' := by
  rcases ha.ways with ⟨rfl, a, c, rfl⟩ | ⟨hne, ga, oa, ca, rfl, hca, hga, hcla⟩
  · rcases hb.ways with ⟨_, b, d, rfl⟩ | ⟨hne, _⟩
    · clear ha hb
      go_enter Try.func16, Try.ntmps16
      go_wp2
      go_loop [5] (fun iv => iv = .int .i64 0) (fun _ => 0)
      case atStart => rfl
      case round =>
        obtain rfl := hrel
        go_wp2
        go_ret
        exact ⟨rfl, Below.refl _ _⟩
    · exact absurd rfl hne
  · rcases hb.ways with ⟨e, _⟩ | ⟨_, gb, ob, cb, rfl, hcb, hgb, hclb⟩
    · exact absurd e hne
    · clear ha hb
      have HA := Lib.hid hcla
      have HB := Lib.hid hclb
      clear hcla hclb
      go_enter Try.func16, Try.ntmps16
      go_wp2
      go_loopw [5] (fun iv wr => ∃ i : Nat, i ≤ l.length ∧ iv = .int .i64 (i : Int) ∧ Below w.heap.size w wr) (fun iv _ => l.length - (intOf iv).toNat)
      case atStart => exact ⟨0, by omega, rfl, Below.refl _ _⟩
      case round =>
        obtain ⟨i, hi, rfl, hbel⟩ := hrel
        by_cases hlt : i < l.length
        · have hg : l[i]? = some l[i] := List.getElem?_eq_getElem hlt
          have h1 := (hbel.cell (p := ⟨ga, oa + i * intE.sz + 0, none⟩) hga).trans (HA.out i _ hg 0 _ rfl)
          have h2 := (hbel.cell (p := ⟨gb, ob + i * intE.sz + 0, none⟩) hgb).trans (HB.out i _ hg 0 _ rfl)
          rw [show intE.sz = 1 from rfl, Nat.mul_one, Nat.add_zero] at h1 h2
          generalize l[i] = t at *
          have hi0 : (0 : Int) ≤ (i : Int) := by omega
          have hi1 : (i : Int) < (l.length : Int) := by omega
          clear hg
          go_wp2
          go_quiet (fail)
          go_wp2
          go_roundw
          case rel => exact ⟨i + 1, by omega, by go_num, below_drewN hbel _⟩
          case measure => simp [intOf]; omega
        · go_wp2
          go_ret
          exact ⟨rfl, hbel⟩


def IsIn (w : World) (v : Value) (l : List Int) : Prop := Rows' intE w v l ∧ l.length ≤ 9223372036854775807

instance : Inhabited Int := ⟨0⟩

set_option maxRecDepth 100000 in
set_option maxHeartbeats 1000000 in
theorem szIntS_any (l : List Int) (v : Value) (left : Int) (w : World) (h : IsIn w v l) (h0 : 0 ≤ left) (h1 : left ≤ 1048576) :
    Calls Try.prog 9 #[v, .int .i64 left] w fun e w' => (∃ r : Int, e = .returned (.int .i64 r) ∧ r ≤ left ∧ (0 ≤ r → (l.length : Int) ≤ left)) ∧ w' = w := by
  obtain ⟨hr, hl⟩ := h
  obtain ⟨a, c, rfl⟩ : ∃ (a : Option Addr) (c : Nat), v = .slice a l.length c := by
    rcases hr.ways with ⟨rfl, a, c, rfl⟩ | ⟨_, g, off, c, rfl, _⟩
    · exact ⟨a, c, rfl⟩
    · exact ⟨_, c, rfl⟩
  clear hr
  generalize l.length = n at *
  by_cases hn : left - (n : Int) < 0
  · go_enter Try.func9, Try.ntmps9
    go_wp2
    go_ret
    exact ⟨⟨-1, rfl, by omega, fun h => absurd h (by omega)⟩, rfl⟩
  · go_enter Try.func9, Try.ntmps9
    go_wp2
    go_ret
    exact ⟨⟨_, rfl, by omega, fun _ => by omega⟩, rfl⟩

section
variable {H : Type} {enc : TypeId × Value → H} {W : World}

set_option maxRecDepth 100000 in
theorem ints_of_trod {fuel : Nat} {v : Value} {x : DataW H × List MemPlace} (h : DataW.trod enc Try.prog W 0 (fun _ => true) true fuel 22 [v] = some x) : ∃ l : List Int, IsIn W v l := by
  have hml : maxLen ≤ 9223372036854775807 := by decide
  rcases open_slice1 Try.underlying22 (by kernel_rfl) h with ⟨hv, _⟩ | ⟨a, len, cap, m, n, V, D, Pl, hv, _, hl, hm, hmm, _, hc⟩
  · simp at hv; subst hv
    exact ⟨[], .inl ⟨rfl, _, _, rfl⟩, by simp⟩
  · simp at hv; subst hv
    have hm2 : m = cap := by simpa using hmm
    have hex : ∀ i, i < len → ∃ s : Int, W.cell? (a.add i) = some (.int .i64 s) := by
      intro i hi
      obtain ⟨h1, h2⟩ := hc i (by omega)
      obtain ⟨s, hs, _, _⟩ := DataW.trod_int Try.underlying3 h2
      simp at hs
      exact ⟨s, by rw [h1, hs]⟩
    obtain ⟨l, hlen, hr, _⟩ := rows_of_cells intE hl (fun i hi => by
      obtain ⟨s, hs⟩ := hex i hi
      refine ⟨s, fun k u hu => ?_⟩
      match k, hu with
      | 0, hu => simp [intE] at hu; subst hu; rw [show intE.sz = 1 from rfl, Nat.mul_one, Nat.add_zero]; exact hs
      | k + 1, hu => simp [intE] at hu) (fun _ => True) (fun _ _ _ _ => trivial)
    exact ⟨l, hr, by omega⟩
end

end Go.Proofs.Ytodldamjleehlaa

/- Calls: what one is, when it is right, and how it lies in memory. -/
namespace Go.Proofs.Ytodldamjleehlaa
open Go.RowKit

structure Cal where
  kind : Int
  user : ByteArray
  box : ByteArray
  tob : ByteArray
  uid : Int
  uids : List Int
  flags : Int
  text : ByteArray

def Cal.cs (c : Cal) (u : Value) : Array Value := #[.int .i64 c.kind, .string c.user, .string c.box, .string c.tob, .int .i64 c.uid, u, .int .i64 c.flags, .string c.text]
def Cal.v (c : Cal) (u : Value) : Value := .agg #[.int .i64 c.kind, .string c.user, .string c.box, .string c.tob, .int .i64 c.uid, u, .int .i64 c.flags, .string c.text]

def noTx : ByteArray := ⟨#[]⟩

def UidAt (l : List Int) (i : Nat) : Prop := ∀ x, l[i]? = some x → (1 ≤ x ∧ x ≤ 9999) ∧ ∀ y, 0 < i → l[i - 1]? = some y → y < x
def uidsP (l : List Int) : Prop := (∀ i, UidAt l i) ∧ l.length ≤ 8

def Cal.ok (c : Cal) : Prop := (1 ≤ c.kind ∧ c.kind ≤ 6) ∧ wdOk c.user ∧ wdOk c.box ∧ (c.kind = 6 → wdOk c.tob) ∧ (c.kind ≠ 6 → c.tob = noTx) ∧ (c.kind = 4 ∨ c.kind = 6 → 1 ≤ c.uid ∧ c.uid ≤ 9999) ∧ (c.kind ≠ 4 → c.kind ≠ 6 → c.uid = 0) ∧ (c.kind ≠ 5 → c.uids = []) ∧ uidsP c.uids ∧ (0 ≤ c.flags ∧ c.flags ≤ 7) ∧ (c.kind ≠ 3 → c.kind ≠ 4 → c.flags = 0) ∧ c.text.size ≤ 100 ∧ (c.kind ≠ 3 → c.text = noTx)

theorem uidsP_nil : uidsP [] := ⟨fun i x h => by simp at h, by simp⟩

def Cal.used (c : Cal) : Cal :=
  if c.kind = 1 ∨ c.kind = 2 then ⟨c.kind, c.user, c.box, noTx, 0, [], 0, noTx⟩
  else if c.kind = 3 then ⟨c.kind, c.user, c.box, noTx, 0, [], c.flags, c.text⟩
  else if c.kind = 4 then ⟨c.kind, c.user, c.box, noTx, c.uid, [], c.flags, noTx⟩
  else if c.kind = 5 then ⟨c.kind, c.user, c.box, noTx, 0, c.uids, 0, noTx⟩
  else if c.kind = 6 then ⟨c.kind, c.user, c.box, c.tob, c.uid, [], 0, noTx⟩
  else ⟨0, noTx, noTx, noTx, 0, [], 0, noTx⟩
def Cal.fits (c : Cal) : Prop :=
  if c.kind = 1 ∨ c.kind = 2 then True
  else if c.kind = 3 then (0 ≤ c.flags ∧ c.flags ≤ 7) ∧ c.text.size ≤ 100
  else if c.kind = 4 then (1 ≤ c.uid ∧ c.uid ≤ 9999) ∧ (0 ≤ c.flags ∧ c.flags ≤ 7)
  else if c.kind = 5 then uidsP c.uids
  else if c.kind = 6 then (1 ≤ c.uid ∧ c.uid ≤ 9999) ∧ wdOk c.tob
  else False

theorem noTx_size : noTx.size = 0 := rfl

set_option linter.unusedSimpArgs false in
theorem Cal.ok_iff (c : Cal) : c.ok ↔ c.fits ∧ wdOk c.user ∧ wdOk c.box ∧ c.used = c := by
  obtain ⟨k, u, b, t, i, l, f, x⟩ := c
  unfold Cal.ok Cal.fits Cal.used
  simp only
  by_cases h1 : k = 1
  · subst h1
    simp only [true_or, if_true, true_and, Cal.mk.injEq]
    constructor
    · rintro ⟨_, hu, hb, _, ht, _, hi, hl, _, _, hf, _, hx⟩
      exact ⟨hu, hb, (ht (by omega)).symm, (hi (by omega) (by omega)).symm, (hl (by omega)).symm, (hf (by omega) (by omega)).symm, (hx (by omega)).symm⟩
    · rintro ⟨hu, hb, rfl, rfl, rfl, rfl, rfl⟩
      exact ⟨by first | omega | simp, hu, hb, by first | omega | simp, fun _ => rfl, by first | omega | simp, fun _ _ => rfl, fun _ => rfl, uidsP_nil, by first | omega | simp, fun _ _ => rfl, by rw [noTx_size]; omega, fun _ => rfl⟩
  by_cases h2 : k = 2
  · subst h2
    simp only [or_true, if_true, true_and, Cal.mk.injEq]
    constructor
    · rintro ⟨_, hu, hb, _, ht, _, hi, hl, _, _, hf, _, hx⟩
      exact ⟨hu, hb, (ht (by omega)).symm, (hi (by omega) (by omega)).symm, (hl (by omega)).symm, (hf (by omega) (by omega)).symm, (hx (by omega)).symm⟩
    · rintro ⟨hu, hb, rfl, rfl, rfl, rfl, rfl⟩
      exact ⟨by first | omega | simp, hu, hb, by first | omega | simp, fun _ => rfl, by first | omega | simp, fun _ _ => rfl, fun _ => rfl, uidsP_nil, by first | omega | simp, fun _ _ => rfl, by rw [noTx_size]; omega, fun _ => rfl⟩
  rw [if_neg (show ¬ (k = 1 ∨ k = 2) by omega), if_neg (show ¬ (k = 1 ∨ k = 2) by omega)]
  by_cases h3 : k = 3
  · subst h3
    simp only [if_true, true_and, Cal.mk.injEq, and_true]
    constructor
    · rintro ⟨_, hu, hb, _, ht, _, hi, hl, _, hf, _, hx, _⟩
      exact ⟨⟨hf, hx⟩, hu, hb, (ht (by omega)).symm, (hi (by omega) (by omega)).symm, (hl (by omega)).symm⟩
    · rintro ⟨⟨hf, hx⟩, hu, hb, rfl, rfl, rfl⟩
      exact ⟨by first | omega | simp, hu, hb, by first | omega | simp, fun _ => rfl, by first | omega | simp, fun _ _ => rfl, fun _ => rfl, uidsP_nil, hf, by first | omega | simp, hx, by first | omega | simp⟩
  rw [if_neg h3, if_neg h3]
  by_cases h4 : k = 4
  · subst h4
    simp only [if_true, true_and, Cal.mk.injEq, and_true]
    constructor
    · rintro ⟨_, hu, hb, _, ht, hi, _, hl, _, hf, _, _, hx⟩
      exact ⟨⟨hi (by simp), hf⟩, hu, hb, (ht (by omega)).symm, (hl (by omega)).symm, (hx (by omega)).symm⟩
    · rintro ⟨⟨hi, hf⟩, hu, hb, rfl, rfl, rfl⟩
      exact ⟨by first | omega | simp, hu, hb, by first | omega | simp, fun _ => rfl, fun _ => hi, by first | omega | simp, fun _ => rfl, uidsP_nil, hf, by first | omega | simp, by rw [noTx_size]; omega, fun _ => rfl⟩
  rw [if_neg h4, if_neg h4]
  by_cases h5 : k = 5
  · subst h5
    simp only [if_true, true_and, Cal.mk.injEq, and_true]
    constructor
    · rintro ⟨_, hu, hb, _, ht, _, hi, _, hl, _, hf, _, hx⟩
      exact ⟨hl, hu, hb, (ht (by omega)).symm, (hi (by omega) (by omega)).symm, (hf (by omega) (by omega)).symm, (hx (by omega)).symm⟩
    · rintro ⟨hl, hu, hb, rfl, rfl, rfl, rfl⟩
      exact ⟨by first | omega | simp, hu, hb, by first | omega | simp, fun _ => rfl, by first | omega | simp, fun _ _ => rfl, by first | omega | simp, hl, by first | omega | simp, fun _ _ => rfl, by rw [noTx_size]; omega, fun _ => rfl⟩
  rw [if_neg h5, if_neg h5]
  by_cases h6 : k = 6
  · subst h6
    simp only [if_true, true_and, Cal.mk.injEq, and_true]
    constructor
    · rintro ⟨_, hu, hb, ht, _, hi, _, hl, _, _, hf, _, hx⟩
      exact ⟨⟨hi (by simp), ht (by first | rfl | trivial)⟩, hu, hb, (hl (by omega)).symm, (hf (by omega) (by omega)).symm, (hx (by omega)).symm⟩
    · rintro ⟨⟨hi, ht⟩, hu, hb, rfl, rfl, rfl⟩
      exact ⟨by first | omega | simp, hu, hb, fun _ => ht, by first | omega | simp, fun _ => hi, by first | omega | simp, fun _ => rfl, uidsP_nil, by first | omega | simp, fun _ _ => rfl, by rw [noTx_size]; omega, fun _ => rfl⟩
  rw [if_neg h6, if_neg h6]
  constructor
  · rintro ⟨⟨_, _⟩, _⟩; omega
  · rintro ⟨h, _⟩; exact h.elim

theorem Box.cal {w : World} {b : Nat} {c : Cal} {u : Value} {t : TypeId} (h : Box w b (c.cs u) t) : w.cell? ⟨b, 0, none⟩ = some (.int .i64 c.kind) ∧ w.cell? ⟨b, 1, none⟩ = some (.string c.user) ∧ w.cell? ⟨b, 2, none⟩ = some (.string c.box) ∧ w.cell? ⟨b, 3, none⟩ = some (.string c.tob) ∧ w.cell? ⟨b, 4, none⟩ = some (.int .i64 c.uid) ∧ w.cell? ⟨b, 5, none⟩ = some u ∧ w.cell? ⟨b, 6, none⟩ = some (.int .i64 c.flags) ∧ w.cell? ⟨b, 7, none⟩ = some (.string c.text) :=
  ⟨h.cell 0 _ rfl, h.cell 1 _ rfl, h.cell 2 _ rfl, h.cell 3 _ rfl, h.cell 4 _ rfl, h.cell 5 _ rfl, h.cell 6 _ rfl, h.cell 7 _ rfl⟩

end Go.Proofs.Ytodldamjleehlaa

/- Records: what the program's WordOk hands back, the rights of its five kinds of records, and records told apart and back. -/
namespace Go.Proofs.Ytodldamjleehlaa
open Go.RowKit

set_option maxRecDepth 100000 in
set_option maxHeartbeats 1000000 in
theorem implWordOk_any (s : ByteArray) (w : World) :
    Calls Try.prog 14 #[.string s] w fun e w' => e = .returned (.bool (decide (wdOk s))) ∧ Below w.heap.size w w' := by
  by_cases hin : 1 ≤ s.size ∧ s.size ≤ 8
  · obtain ⟨hin1, hin2⟩ := hin
    have h1 : ¬ (s.size : Int) < 1 := by omega
    have h2 : ¬ (8 : Int) < (s.size : Int) := by omega
    have hconv : ∀ wx, (convert 9 40 (.string s)).run Try.prog wx = .ok (.slice (some ⟨wx.heap.size, 0, none⟩) s.size (grownCap wx s.size 0 5)) (Lib.bytesWorld wx 5 s) :=
      fun wx => Lib.run_convert_string_bytes (P := Try.prog) wx 9 40 5 s Try.underlying9 Try.underlying40 Try.underlying5
    have hbel : Below w.heap.size w (Lib.bytesWorld w 5 s) :=
      (Below.refl _ _).grown (⟨rfl, rfl, rfl, by rw [Lib.bytesWorld_size]; omega, fun k hk _ => Lib.bytesWorld_at_old w 5 s k hk⟩ : w.grownBy (Lib.bytesWorld w 5 s) none) (Nat.le_refl _) (fun k hk => by cases hk)
    obtain ⟨o, ho1, ho2⟩ := bytes_block w s
    have hcells := ho2 _ ho1
    go_enter Try.func14, Try.ntmps14
    go_wp2
    clear hconv ho1 ho2
    generalize hbw : Lib.bytesWorld w 5 s = w2 at *
    clear hbw
    go_loop [16] (fun iv => ∃ i : Nat, i ≤ s.size ∧ iv = .int .i64 (i : Int) ∧ ∀ j (hj : j < s.size), j < i → 97 ≤ s[j].toNat ∧ s[j].toNat ≤ 122) (fun iv => s.size - (intOf iv).toNat)
    case atStart => exact ⟨0, by omega, rfl, fun j _ hj => by omega⟩
    case round =>
      obtain ⟨i, hi, rfl, hall⟩ := hrel
      have HA := Lib.hid hall
      clear hall
      by_cases hlt : i < s.size
      · have hlt' : (i : Int) < (s.size : Int) := by omega
        have hcell := hcells i hlt
        have HB : Hid (¬ (97 ≤ s[i].toNat ∧ s[i].toNat ≤ 122) → decide (wdOk s) = false) := fun h => decide_eq_false (fun hw => h (hw.2 _ (by
          show s.data[i] ∈ s.data.toList
          exact Array.getElem_mem_toList _)))
        have HN : Hid (97 ≤ s[i].toNat ∧ s[i].toNat ≤ 122 → ∀ j (hj : j < s.size), j < i + 1 → 97 ≤ s[j].toNat ∧ s[j].toNat ≤ 122) := by
          intro h j hj hji
          by_cases e : j = i
          · subst e; exact h
          · exact HA.out j hj (by omega)
        clear hcells
        generalize s[i].toNat = c at hcell HB HN
        by_cases q1 : c < 97
        · have q1' : (c : Int) < 97 := by omega
          go_wp2
          go_ret
          exact ⟨by rw [HB.out (by omega)]; rfl, hbel⟩
        · have q1' : ¬ (c : Int) < 97 := by omega
          by_cases q2 : 122 < c
          · have q2' : (122 : Int) < (c : Int) := by omega
            go_wp2
            go_ret
            exact ⟨by rw [HB.out (by omega)]; rfl, hbel⟩
          · have q2' : ¬ (122 : Int) < (c : Int) := by omega
            go_wp2
            go_round
            case rel => exact ⟨i + 1, by omega, by go_num, HN.out ⟨by omega, by omega⟩⟩
            case measure => simp [intOf]; omega
      · have hge : ¬ (i : Int) < (s.size : Int) := by omega
        have HE : Hid (decide (wdOk s) = true) := show _ = _ from decide_eq_true ⟨⟨hin1, hin2⟩, fun b hb => by
          obtain ⟨j, hj, rfl⟩ := List.getElem_of_mem hb
          have hj2 : j < s.size := by rw [← tl_len]; exact hj
          exact HA.out j hj2 (by omega)⟩
        clear hcells
        go_wp2
        go_ret
        exact ⟨by rw [HE.out]; rfl, hbel⟩
  · have hd : Hid (decide (wdOk s) = false) := show _ = _ from decide_eq_false (fun h => hin h.1)
    by_cases h1 : (s.size : Int) < 1
    · go_enter Try.func14, Try.ntmps14
      go_wp2
      go_ret
      exact ⟨by rw [hd.out]; rfl, Below.refl _ _⟩
    · have h2 : (8 : Int) < (s.size : Int) := by omega
      go_enter Try.func14, Try.ntmps14
      go_wp2
      go_ret
      exact ⟨by rw [hd.out]; rfl, Below.refl _ _⟩

theorem validOk_yes (n : Int) (w : World) (h1 : 1 ≤ n) (h2 : n ≤ 9999) : Calls Try.prog 18 #[.int .i64 n] w fun e w' => e = .returned (.bool true) ∧ w = w' := by
  go_enter Try.func18, Try.ntmps18
  go_wp2
  go_ret
  simp
theorem validOk_no (n : Int) (w : World) (h : ¬ (1 ≤ n ∧ n ≤ 9999)) : Calls Try.prog 18 #[.int .i64 n] w fun e w' => e = .returned (.bool false) ∧ w = w' := by
  by_cases h1 : 1 ≤ n
  · have h2 : ¬ n ≤ 9999 := fun h2 => h ⟨h1, h2⟩
    go_enter Try.func18, Try.ntmps18
    go_wp2
    go_ret
    simp
  · go_enter Try.func18, Try.ntmps18
    go_wp2
    go_ret
    simp
theorem flagsOk_any (n : Int) (w : World) : Calls Try.prog 17 #[.int .i64 n] w fun e w' => e = .returned (.bool (decide (0 ≤ n ∧ n ≤ 7))) ∧ w = w' := by
  by_cases h1 : 0 ≤ n
  · have e : decide (0 ≤ n ∧ n ≤ 7) = decide (n ≤ 7) := by simp [h1]
    rw [e]
    go_enter Try.func17, Try.ntmps17
    go_wp2
    go_ret
    simp
  · have e : decide (0 ≤ n ∧ n ≤ 7) = false := by simp [h1]
    rw [e]
    go_enter Try.func17, Try.ntmps17
    go_wp2
    go_ret
    simp

def bxP (v n : Int) (u m : ByteArray) : Prop := (1 ≤ v ∧ v ≤ 9999) ∧ (1 ≤ n ∧ n ≤ 10000) ∧ wdOk u ∧ wdOk m
instance (v n : Int) (u m : ByteArray) : Decidable (bxP v n u m) := by unfold bxP; infer_instance
def adP (v u f : Int) (t : ByteArray) : Prop := (1 ≤ v ∧ v ≤ 9999) ∧ (1 ≤ u ∧ u ≤ 9999) ∧ (0 ≤ f ∧ f ≤ 7) ∧ t.size ≤ 100
instance (v u f : Int) (t : ByteArray) : Decidable (adP v u f t) := by unfold adP; infer_instance
def flP (v u f : Int) : Prop := (1 ≤ v ∧ v ≤ 9999) ∧ (1 ≤ u ∧ u ≤ 9999) ∧ (0 ≤ f ∧ f ≤ 7)
instance (v u f : Int) : Decidable (flP v u f) := by unfold flP; infer_instance
def goP (v u : Int) : Prop := (1 ≤ v ∧ v ≤ 9999) ∧ (1 ≤ u ∧ u ≤ 9999)
instance (v u : Int) : Decidable (goP v u) := by unfold goP; infer_instance













end Go.Proofs.Ytodldamjleehlaa

/- CallOk of the program. -/
namespace Go.Proofs.Ytodldamjleehlaa
open Go.RowKit

theorem Rows'.intsD {w : World} {v : Value} {l : List Int} (h : Rows' intE w v l) : ∃ (ad : Option Addr) (cap : Nat), v = .slice ad l.length cap ∧ ∀ X, Below w.heap.size w X → ∀ (i : Nat) (x : Int), l[i]? = some x → ∃ g off, ad = some ⟨g, off, none⟩ ∧ X.cell? ⟨g, off + i, none⟩ = some (.int .i64 x) := by
  rcases h.ways with ⟨rfl, a, c, rfl⟩ | ⟨_, g, off, c, rfl, hc, hg, hcl⟩
  · exact ⟨a, c, rfl, fun X _ i x h => by simp at h⟩
  · refine ⟨_, c, rfl, fun X hX i x hx => ⟨g, off, rfl, ?_⟩⟩
    have := (hX.cell (p := ⟨g, off + i * intE.sz + 0, none⟩) hg).trans (hcl i x hx 0 _ rfl)
    rw [show intE.sz = 1 from rfl, Nat.mul_one, Nat.add_zero] at this
    exact this

set_option maxRecDepth 100000 in
set_option maxHeartbeats 4000000 in
theorem equalInts_any (ms ms' : List Int) (va vb : Value) (w : World) (ha : Rows' intE w va ms) (hb : Rows' intE w vb ms') (hl : ms.length ≤ 1099511627776) :
    Calls Try.prog 20 #[va, vb] w fun e w' => e = .returned (.bool (sameP (ms = ms'))) ∧ Below w.heap.size w w' := by
  obtain ⟨ad, cap, rfl, hrowa⟩ := ha.intsD
  obtain ⟨ad2, cap2, rfl, hrowb⟩ := hb.intsD
  have HA := Lib.hid hrowa
  have HB := Lib.hid hrowb
  clear ha hb hrowa hrowb
  obtain ⟨D, hD⟩ : ∃ D, sameP (ms = ms') = D := ⟨_, rfl⟩
  have HD := Lib.hid hD
  rw [hD]
  clear hD
  by_cases e3 : ms.length = ms'.length
  case neg =>
    have e3' : ¬ ((ms.length : Int) = (ms'.length : Int)) := by omega
    have HE : Hid (D = false) := by show D = false; rw [← HD.out]; exact sameP_no (fun e => e3 (by rw [e]))
    clear e3
    go_enter Try.func20, Try.ntmps20
    go_wp2
    go_ret
    exact ⟨by rw [HE.out]; rfl, Below.refl _ _⟩
  obtain ⟨n, hn⟩ : ∃ n, ms.length = n := ⟨_, rfl⟩
  have hm : ms'.length = n := by omega
  have HN := Lib.hid hn
  have HM := Lib.hid hm
  rw [hn] at hl
  rw [hn, hm]
  clear hn hm e3
  go_enter Try.func20, Try.ntmps20
  go_wp2
  go_loopw [13] (fun iv wr => ∃ i : Nat, i ≤ n ∧ iv = .int .i64 (i : Int) ∧ (∀ (j : Nat) (x y : Int), ms[j]? = some x → ms'[j]? = some y → j < i → x = y) ∧ Below w.heap.size w wr) (fun iv _ => n - (intOf iv).toNat)
  case atStart => exact ⟨0, by omega, rfl, fun j x y _ _ hj => by omega, Below.refl _ _⟩
  case round =>
    obtain ⟨i, hi, rfl, hU, hb⟩ := hrel
    have HU := Lib.hid hU
    clear hU
    by_cases hlt : i < n
    · obtain ⟨x, hgx⟩ : ∃ x, ms[i]? = some x := ⟨_, List.getElem?_eq_getElem (by rw [HN.out]; exact hlt)⟩
      obtain ⟨y, hgy⟩ : ∃ y, ms'[i]? = some y := ⟨_, List.getElem?_eq_getElem (by rw [HM.out]; exact hlt)⟩
      obtain ⟨ga, oa, rfl, p0⟩ := HA.out _ hb i _ hgx
      obtain ⟨gb, ob, rfl, q0⟩ := HB.out _ hb i _ hgy
      have HX := Lib.hid hgx
      have HY := Lib.hid hgy
      clear hgx hgy
      have hi0 : (0 : Int) ≤ (i : Int) := by omega
      have hi1 : (i : Int) < (n : Int) := by omega
      by_cases hxy : x = y
      · subst hxy
        go_wp2
        go_quiet (fail)
        go_wp2
        go_roundw
        case rel => exact ⟨i + 1, by omega, by go_num, fun j u v h1 h2 hj => by
          by_cases c : j = i
          · subst c
            have e1 := HX.out; have e2 := HY.out; rw [h1] at e1; rw [h2] at e2; cases e1; cases e2
            rfl
          · exact HU.out j u v h1 h2 (by omega), hb.trans ⟨rfl, rfl, rfl, Nat.le_refl _, fun _ _ => rfl⟩⟩
        case measure => simp [intOf]; omega
      · have HE : Hid (D = false) := by
          show D = false
          rw [← HD.out]
          exact sameP_no (fun e4 => hxy (by
            have e1 := HX.out
            rw [e4, HY.out] at e1
            exact (Option.some.inj e1).symm))
        go_wp2
        go_quiet (fail)
        go_wp2
        go_ret
        exact ⟨by rw [HE.out]; rfl, hb.trans ⟨rfl, rfl, rfl, Nat.le_refl _, fun _ _ => rfl⟩⟩
    · have HE : Hid (D = true) := by
        show D = true
        rw [← HD.out]
        exact sameP_yes (listL_all (HN.out.trans HM.out.symm) (fun j x y h1 h2 => HU.out j x y h1 h2 (by have := (List.getElem?_eq_some_iff.1 h1).1; have := HN.out; omega)))
      go_wp2
      go_ret
      exact ⟨by rw [HE.out]; rfl, hb⟩

theorem bytes_no {a b : ByteArray} (h : ¬ a = b) : ¬ (a.toList = b.toList) := fun e => h ((ba_same a b).1 e)

set_option maxRecDepth 100000 in
set_option maxHeartbeats 4000000 in
theorem sameCall_any (c d : Cal) (u1 u2 : Value) (w : World) (e1 : c.kind = d.kind) (e2 : c.user = d.user) (e3 : c.box = d.box) (h1 : Rows' intE w u1 c.uids) (h2 : Rows' intE w u2 d.uids) (hl : c.uids.length ≤ 1048576) :
    Calls Try.prog 15 #[c.v u1, d.v u2] w fun e w' => e = .returned (.bool (sameP (c = d))) ∧ Below w.heap.size w w' := by
  obtain ⟨k, us, bo, tob, ui, l, fl, tx⟩ := c
  obtain ⟨k', us', bo', tob', ui', l', fl', tx'⟩ := d
  simp only at e1 e2 e3 h1 h2 hl
  subst e1 e2 e3
  unfold Cal.v
  simp only
  have b0 : Below w.heap.size w ((w.alloc (.cells #[.int .i64 k, .string us, .string bo, .string tob, .int .i64 ui, u1, .int .i64 fl, .string tx] 27)).alloc (.cells #[.int .i64 k, .string us, .string bo, .string tob', .int .i64 ui', u2, .int .i64 fl', .string tx'] 27)) := ((Below.refl _ _).alloc (Nat.le_refl _) _).alloc (by simp) _
  have HE := Lib.hid (fun wx (hx : Below w.heap.size w wx) => equalInts_any l l' _ _ wx (h1.later hx) (h2.later hx) (by omega))
  have q0 := Box.new w #[.int .i64 k, .string us, .string bo, .string tob, .int .i64 ui, u1, .int .i64 fl, .string tx] 27
  have q1 := Box.new (w.alloc (.cells #[.int .i64 k, .string us, .string bo, .string tob, .int .i64 ui, u1, .int .i64 fl, .string tx] 27)) #[.int .i64 k, .string us, .string bo, .string tob', .int .i64 ui', u2, .int .i64 fl', .string tx'] 27
  rw [show (w.alloc (.cells #[.int .i64 k, .string us, .string bo, .string tob, .int .i64 ui, u1, .int .i64 fl, .string tx] 27)).heap.size = w.heap.size + 1 by simp] at q1
  replace q0 := q0.later (belNew _ (.cells #[.int .i64 k, .string us, .string bo, .string tob', .int .i64 ui', u2, .int .i64 fl', .string tx'] 27))
  clear h1 h2
  obtain ⟨D, hD⟩ : ∃ D, sameP ((⟨k, us, bo, tob, ui, l, fl, tx⟩ : Cal) = ⟨k, us, bo, tob', ui', l', fl', tx'⟩) = D := ⟨_, rfl⟩
  have HD := Lib.hid hD
  rw [hD]
  clear hD
  have HNO : Hid (¬ (tob = tob' ∧ ui = ui' ∧ l = l' ∧ fl = fl' ∧ tx = tx') → D = false) := by
    show ¬ (tob = tob' ∧ ui = ui' ∧ l = l' ∧ fl = fl' ∧ tx = tx') → D = false
    intro h
    rw [← HD.out]
    refine sameP_no (fun e => h ?_)
    injection e with _ _ _ g1 g2 g3 g4 g5
    exact ⟨g1, g2, g3, g4, g5⟩
  by_cases t1 : tob = tob'
  case neg =>
    have HF : Hid (D = false) := HNO.out (fun h => t1 h.1)
    have t1' := bytes_no t1
    clear t1 q0 q1
    go_enter Try.func15, Try.ntmps15
    go_wp2
    go_ret
    exact ⟨by rw [HF.out]; rfl, b0⟩
  by_cases t2 : ui = ui'
  case neg =>
    have HF : Hid (D = false) := HNO.out (fun h => t2 h.2.1)
    subst t1
    clear q0 q1
    go_enter Try.func15, Try.ntmps15
    go_wp2
    go_ret
    exact ⟨by rw [HF.out]; rfl, b0⟩
  subst t1 t2
  have BB := Lib.hid b0
  by_cases t3 : l = l'
  case neg =>
    have HF : Hid (D = false) := HNO.out (fun h => t3 h.2.2.1)
    have HS : Hid (sameP (l = l') = false) := sameP_no t3
    clear q0 q1 t3
    go_enter Try.func15, Try.ntmps15
    go_wp2_with (go_at_call 20; refine (HE.out _ BB.out).mono ?_; rintro e w1 ⟨rfl, k1⟩; rw [HS.out])
    go_ret
    exact ⟨by rw [HF.out]; rfl, BB.out.trans (k1.mono BB.out.size)⟩
  have HS : Hid (sameP (l = l') = true) := sameP_yes t3
  have HL := Lib.hid t3
  clear t3
  by_cases t4 : fl = fl'
  case neg =>
    have HF : Hid (D = false) := HNO.out (fun h => t4 h.2.2.2.1)
    have Q0 := Lib.hid q0
    have Q1 := Lib.hid q1
    clear q0 q1
    go_enter Try.func15, Try.ntmps15
    go_wp2_with (go_at_call 20; refine (HE.out _ BB.out).mono ?_; rintro e w1 ⟨rfl, k1⟩; rw [HS.out]; have c6 := (Q0.out.later k1).cell 6 _ rfl; have d6 := (Q1.out.later k1).cell 6 _ rfl)
    go_ret
    exact ⟨by rw [HF.out]; rfl, BB.out.trans (k1.mono BB.out.size)⟩
  subst t4
  by_cases t5 : tx = tx'
  case neg =>
    have HF : Hid (D = false) := HNO.out (fun h => t5 h.2.2.2.2)
    have t5' := bytes_no t5
    have Q0 := Lib.hid q0
    have Q1 := Lib.hid q1
    clear t5 q0 q1
    go_enter Try.func15, Try.ntmps15
    go_wp2_with (go_at_call 20; refine (HE.out _ BB.out).mono ?_; rintro e w1 ⟨rfl, k1⟩; rw [HS.out]; have c6 := (Q0.out.later k1).cell 6 _ rfl; have d6 := (Q1.out.later k1).cell 6 _ rfl; have c7 := (Q0.out.later k1).cell 7 _ rfl; have d7 := (Q1.out.later k1).cell 7 _ rfl)
    go_ret
    exact ⟨by rw [HF.out]; simp [t5'], BB.out.trans (k1.mono BB.out.size)⟩
  subst t5
  have HF : Hid (D = true) := by show D = true; rw [← HD.out]; exact sameP_yes (by rw [HL.out])
  have Q0 := Lib.hid q0
  have Q1 := Lib.hid q1
  clear q0 q1
  go_enter Try.func15, Try.ntmps15
  go_wp2_with (go_at_call 20; refine (HE.out _ BB.out).mono ?_; rintro e w1 ⟨rfl, k1⟩; rw [HS.out]; have c6 := (Q0.out.later k1).cell 6 _ rfl; have d6 := (Q1.out.later k1).cell 6 _ rfl; have c7 := (Q0.out.later k1).cell 7 _ rfl; have d7 := (Q1.out.later k1).cell 7 _ rfl)
  go_ret
  exact ⟨by rw [HF.out]; rfl, BB.out.trans (k1.mono BB.out.size)⟩

end Go.Proofs.Ytodldamjleehlaa

/- States held against each other, and right states, plainly. -/
namespace Go.Proofs.Ytodldamjleehlaa

end Go.Proofs.Ytodldamjleehlaa

/- Right states, plainly: what each round over the boxes asks. -/
namespace Go.Proofs.Ytodldamjleehlaa

def mlOk (nx : Int) (m : Ml) : Prop := (1 ≤ m.uid ∧ m.uid ≤ nx - 1) ∧ (0 ≤ m.flags ∧ m.flags ≤ 7) ∧ m.text.size ≤ 100
def bxOk (b : Bx) : Prop := (1 ≤ b.valid ∧ b.valid ≤ 9999) ∧ wdOk b.user ∧ wdOk b.name ∧ (1 ≤ b.next ∧ b.next ≤ 10000)
def MlAt (b : Bx) (k : Nat) : Prop := ∀ m, b.mails[k]? = some m → mlOk b.next m ∧ ∀ q, 0 < k → b.mails[k - 1]? = some q → q.uid < m.uid
def StAt (ps : List Bx) (i : Nat) : Prop := ∀ b, ps[i]? = some b → bxOk b ∧ (∀ p, 0 < i → ps[i - 1]? = some p → p.valid < b.valid) ∧ (∀ k y, k < i → ps[k]? = some y → ¬ (y.user = b.user ∧ y.name = b.name)) ∧ ∀ k, MlAt b k
theorem StAt.of {ps : List Bx} {i : Nat} {b : Bx} (h : ps[i]? = some b) (h1 : bxOk b) (h2 : ∀ p, 0 < i → ps[i - 1]? = some p → p.valid < b.valid) (h3 : ∀ k y, k < i → ps[k]? = some y → ¬ (y.user = b.user ∧ y.name = b.name)) (h4 : ∀ k, k < b.mails.length → MlAt b k) : StAt ps i := by
  intro b' hb'
  rw [h] at hb'
  cases hb'
  refine ⟨h1, h2, h3, fun k => ?_⟩
  by_cases c : k < b.mails.length
  · exact h4 k c
  · intro m hm
    rw [List.getElem?_eq_none (by omega)] at hm
    cases hm
theorem MlAt.of {b : Bx} {k : Nat} {m : Ml} (h : b.mails[k]? = some m) (h1 : mlOk b.next m) (h2 : ∀ q, 0 < k → b.mails[k - 1]? = some q → q.uid < m.uid) : MlAt b k := by
  intro m' hm'
  rw [h] at hm'
  cases hm'
  exact ⟨h1, h2⟩

end Go.Proofs.Ytodldamjleehlaa

/- How mails lie in memory. -/
namespace Go.Proofs.Ytodldamjleehlaa
open Go.RowKit


end Go.Proofs.Ytodldamjleehlaa

/- The helpers of the exact laws over lists of mails: two alike are alike; each is marked, and the marks are held. -/
namespace Go.Proofs.Ytodldamjleehlaa
open Go.RowKit

def Ml.v (f : Ml) : Value := .agg #[.int .i64 f.uid, .int .i64 f.flags, .string f.text]


end Go.Proofs.Ytodldamjleehlaa

/- How boxes lie in memory: a row of boxes, each with a row of mails of its own. -/
namespace Go.Proofs.Ytodldamjleehlaa
open Go.RowKit

structure BxH where
  valid : Int
  user : ByteArray
  name : ByteArray
  next : Int
  a : Option Addr
  n : Nat
  c : Nat
end Go.Proofs.Ytodldamjleehlaa

/- The helpers of the exact laws over boxes and states: two alike are alike. -/
namespace Go.Proofs.Ytodldamjleehlaa
open Go.RowKit





end Go.Proofs.Ytodldamjleehlaa

/- States held against each other: the model's SameState. -/
namespace Go.Proofs.Ytodldamjleehlaa
open Go.RowKit


end Go.Proofs.Ytodldamjleehlaa

/- StateOk of the model. -/
namespace Go.Proofs.Ytodldamjleehlaa
open Go.RowKit

theorem in_yes_q (n lo hi : Int) (w : World) (h1 : lo ≤ n) (h2 : n ≤ hi) : Calls Try.prog 10 #[.int .i64 n, .int .i64 lo, .int .i64 hi] w fun e w' => e = .returned (.bool true) ∧ w' = w :=
  (l01In_yes n lo hi w h1 h2).mono fun _ _ h => ⟨h.1, h.2.symm⟩
theorem in_no_q (n lo hi : Int) (w : World) (h : ¬ (lo ≤ n ∧ n ≤ hi)) : Calls Try.prog 10 #[.int .i64 n, .int .i64 lo, .int .i64 hi] w fun e w' => e = .returned (.bool false) ∧ w' = w :=
  (l01In_no n lo hi w h).mono fun _ _ h => ⟨h.1, h.2.symm⟩

end Go.Proofs.Ytodldamjleehlaa
