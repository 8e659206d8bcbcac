/- Texts of our own, joined. -/
import Derived.Test.YthlbokfajiahpaaJk
import Derived.Test.YthlbokfajiahpaaJi
import Derived.Test.YthlbokfajiahpaaJf
import Derived.Lib.Hide
import Derived.Test.YthlbokfajiahpaaJg
import Derived.Test.YthlbokfajiahpaaJh
import Derived.Test.YthlbokfajiahpaaJd
import Derived.Test.YthlbokfajiahpaaJb
/- A list of texts marked and looked at again: what laws.markStringS and laws.heldStringS hand back. -/
namespace Go.Proofs.Ythlbokfajiahpaa
open Go.RowKit

/-- The first i texts of l marked, from the k-th mark on. -/
def markTo (k : Nat) (l : List ByteArray) (i : Nat) : List ByteArray := (List.range i).map (fun j => mark (k + j)) ++ l.drop i

theorem markTo_length {k i : Nat} {l : List ByteArray} (h : i ≤ l.length) : (markTo k l i).length = l.length := by
  simp [markTo]; omega

theorem markTo_set {k i : Nat} {l : List ByteArray} (h : i < l.length) : (markTo k l i).set i (mark (k + i)) = markTo k l (i + 1) := by
  unfold markTo
  rw [List.set_append_right _ _ (by simp)]
  simp only [List.length_map, List.length_range, Nat.sub_self]
  rw [List.drop_eq_getElem_cons h, List.set_cons_zero, List.range_succ, List.map_append, List.append_assoc]
  rfl

theorem markTo_zero (k : Nat) (l : List ByteArray) : markTo k l 0 = l := by simp [markTo]

/-- All marked. -/
def marksOf (k n : Nat) : List ByteArray := (List.range n).map (fun j => mark (k + j))
theorem markTo_all (k : Nat) (l : List ByteArray) : markTo k l l.length = marksOf k l.length := by simp [markTo, marksOf]
theorem marksOf_length (k n : Nat) : (marksOf k n).length = n := by simp [marksOf]
theorem marksOf_at {k n i : Nat} (h : i < n) : (marksOf k n)[i]? = some (mark (k + i)) := by simp [marksOf, h]

end Go.Proofs.Ythlbokfajiahpaa

/- The helpers of the exact laws over lists of mails: two alike are alike; each is marked, and the marks are held. -/
namespace Go.Proofs.Ythlbokfajiahpaa
open Go.RowKit

def Ml.v (f : Ml) : Value := .agg #[.int .i64 f.uid, .int .i64 f.flags, .string f.text]

/-- The three cells of a mail. -/
theorem ml_cells {w w' : World} {g off : Nat} {l : List Ml} (hc : ∀ j x, l[j]? = some x → ∀ k u, (mlE.f x)[k]? = some u → w.cell? ⟨g, off + j * mlE.sz + k, none⟩ = some u)
    (hg : g < w.heap.size) (hb : Below w.heap.size w w') (i : Nat) (x : Ml) (hi : l[i]? = some x) :
    w'.cell? ⟨g, off + i * 3, none⟩ = some (.int .i64 x.uid) ∧ w'.cell? ⟨g, off + i * 3 + 1, none⟩ = some (.int .i64 x.flags) ∧ w'.cell? ⟨g, off + i * 3 + 2, none⟩ = some (.string x.text) := by
  have h0 := hc i x hi 0 (.int .i64 x.uid) rfl
  have h1 := hc i x hi 1 (.int .i64 x.flags) rfl
  have h2 := hc i x hi 2 (.string x.text) rfl
  exact ⟨(hb.cell (p := ⟨g, off + i * 3, none⟩) hg).trans h0, (hb.cell (p := ⟨g, off + i * 3 + 1, none⟩) hg).trans h1, (hb.cell (p := ⟨g, off + i * 3 + 2, none⟩) hg).trans h2⟩


/-- The marks of a list of frames. -/
def markL (k : Nat) (j : Nat) : Ml := ⟨((k + 3 * j : Nat) : Int), ((k + 3 * j + 1 : Nat) : Int), mark (k + 3 * j + 2)⟩
def marksL (k n : Nat) : List Ml := (List.range n).map (markL k)
theorem marksL_length (k n : Nat) : (marksL k n).length = n := by simp [marksL]
theorem marksL_at {k n i : Nat} (h : i < n) : (marksL k n)[i]? = some (markL k i) := by simp [marksL, h]



end Go.Proofs.Ythlbokfajiahpaa

/- The marks of boxes, plainly. -/
namespace Go.Proofs.Ythlbokfajiahpaa

/-- A box with its marks from k on, and the number behind them. -/
def markB (k : Nat) (b : Bx) : Bx := ⟨((k : Nat) : Int), mark (k + 1), mark (k + 2), ((k + 3 : Nat) : Int), marksL (k + 4) b.mails.length⟩
def kB (k : Nat) (b : Bx) : Nat := k + 4 + 3 * b.mails.length
def marksB : Nat → List Bx → List Bx
  | _, [] => []
  | k, b :: bs => markB k b :: marksB (kB k b) bs
def kE : Nat → List Bx → Nat
  | k, [] => k
  | k, b :: bs => kE (kB k b) bs
theorem marksB_length : ∀ (k : Nat) (bs : List Bx), (marksB k bs).length = bs.length
  | _, [] => rfl
  | k, b :: bs => by simp [marksB, marksB_length (kB k b) bs]
theorem kE_le : ∀ (k : Nat) (bs : List Bx), k ≤ kE k bs
  | _, [] => Nat.le_refl _
  | k, b :: bs => by have := kE_le (kB k b) bs; unfold kE; unfold kB at *; omega
theorem kE_take : ∀ (k : Nat) (bs : List Bx) (i : Nat) (b : Bx), bs[i]? = some b → kE k (bs.take (i + 1)) = kB (kE k (bs.take i)) b
  | _, [], i, b, h => by cases h
  | k, c :: bs, 0, b, h => by cases h; rfl
  | k, c :: bs, i + 1, b, h => by
    show kE (kB k c) (bs.take (i + 1)) = kB (kE (kB k c) (bs.take i)) b
    exact kE_take (kB k c) bs i b h
theorem kE_take_le (k : Nat) (bs : List Bx) : ∀ i, kE k (bs.take i) ≤ kE k bs := by
  induction bs generalizing k with
  | nil => intro i; simp [kE]
  | cons b bs ih =>
    intro i
    cases i with
    | zero => exact kE_le k (b :: bs)
    | succ i => exact ih (kB k b) i
theorem marksB_at : ∀ (k : Nat) (bs : List Bx) (i : Nat) (b : Bx), bs[i]? = some b → (marksB k bs)[i]? = some (markB (kE k (bs.take i)) b)
  | _, [], i, b, h => by cases h
  | k, c :: bs, 0, b, h => by cases h; rfl
  | k, c :: bs, i + 1, b, h => by
    show (marksB (kB k c) bs)[i]? = some (markB (kE (kB k c) (bs.take i)) b)
    exact marksB_at (kB k c) bs i b h
/-- The first i marked. -/
def putB (k : Nat) (bs : List Bx) (i : Nat) : List Bx := (marksB k bs).take i ++ bs.drop i
theorem putB_zero (k : Nat) (bs : List Bx) : putB k bs 0 = bs := by simp [putB]
theorem putB_all (k : Nat) (bs : List Bx) : putB k bs bs.length = marksB k bs := by
  unfold putB
  rw [List.take_of_length_le (by rw [marksB_length]; exact Nat.le_refl _), List.drop_length, List.append_nil]
theorem putB_length (k : Nat) (bs : List Bx) (i : Nat) (h : i ≤ bs.length) : (putB k bs i).length = bs.length := by
  unfold putB
  rw [List.length_append, List.length_take, List.length_drop, marksB_length]; omega
theorem putB_at (k : Nat) (bs : List Bx) (i : Nat) (b : Bx) (h : bs[i]? = some b) : (putB k bs i)[i]? = some b := by
  have hl : i < bs.length := (List.getElem?_eq_some_iff.1 h).1
  unfold putB
  rw [List.getElem?_append_right (by rw [List.length_take, marksB_length]; omega), List.length_take, marksB_length, Nat.min_eq_left (Nat.le_of_lt hl), Nat.sub_self, List.getElem?_drop, Nat.add_zero]
  exact h
theorem putB_set (k : Nat) (bs : List Bx) (i : Nat) (b : Bx) (h : bs[i]? = some b) : (putB k bs i).set i (markB (kE k (bs.take i)) b) = putB k bs (i + 1) := by
  have hl : i < bs.length := (List.getElem?_eq_some_iff.1 h).1
  unfold putB
  rw [List.set_append_right _ _ (by rw [List.length_take, marksB_length]; omega)]
  rw [List.length_take, marksB_length, Nat.min_eq_left (Nat.le_of_lt hl), Nat.sub_self, List.drop_eq_getElem_cons hl, List.set_cons_zero, List.take_add_one, marksB_at k bs i b h, List.append_assoc]
  rfl
end Go.Proofs.Ythlbokfajiahpaa

/- The helpers of the exact laws over boxes and states: two alike are alike. -/
namespace Go.Proofs.Ythlbokfajiahpaa
open Go.RowKit

/-- Boxes that can be read. -/
def BRd (w : World) (v : Value) (bs : List Bx) : Prop := ∃ hs : List BxH, Rows' hdE w v hs ∧ hs.length = bs.length ∧
  ∀ (j : Nat) (h : BxH) (b : Bx), hs[j]? = some h → bs[j]? = some b → (h.valid = b.valid ∧ h.user = b.user ∧ h.name = b.name ∧ h.next = b.next) ∧ Rows' mlE w h.mv b.mails
theorem StO.rd {B : Nat} {w : World} {v : Value} {bs : List Bx} {hs : List BxH} (h : StO B w v bs hs) : BRd w v bs :=
  ⟨hs, h.row.rows, h.len, fun j x b h1 h2 => ⟨(h.at' j x b h1 h2).1, (h.at' j x b h1 h2).2.rows⟩⟩
theorem BRd.later {w w' : World} {v : Value} {bs : List Bx} (h : BRd w v bs) (hb : Below w.heap.size w w') : BRd w' v bs := by
  obtain ⟨hs, h1, h2, h3⟩ := h
  exact ⟨hs, h1.later hb, h2, fun j x b e1 e2 => ⟨(h3 j x b e1 e2).1, (h3 j x b e1 e2).2.later hb⟩⟩
/-- As a loop reads them. -/
theorem BRd.boxes {w : World} {v : Value} {bs : List Bx} (h : BRd w v bs) : ∃ (ad : Option Addr) (cap : Nat), v = .slice ad bs.length cap ∧ ∀ X, Below w.heap.size w X → ∀ (i : Nat) (b : Bx), bs[i]? = some b → ∃ (g off : Nat) (a : Option Addr) (n c : Nat), ad = some ⟨g, off, none⟩ ∧
    X.cell? ⟨g, off + i * 5, none⟩ = some (.int .i64 b.valid) ∧ X.cell? ⟨g, off + i * 5 + 1, none⟩ = some (.string b.user) ∧ X.cell? ⟨g, off + i * 5 + 2, none⟩ = some (.string b.name) ∧ X.cell? ⟨g, off + i * 5 + 3, none⟩ = some (.int .i64 b.next) ∧ X.cell? ⟨g, off + i * 5 + 4, none⟩ = some (.slice a n c) ∧ Rows' mlE w (.slice a n c) b.mails := by
  obtain ⟨hs, h1, h2, h3⟩ := h
  rcases h1.ways with ⟨rfl, a, c, rfl⟩ | ⟨hne, g, off, c, rfl, hc, hg, hcl⟩
  · have : bs = [] := by rw [← List.length_eq_zero_iff, ← h2]; rfl
    subst this
    exact ⟨a, c, rfl, fun X _ i b hi => by cases hi⟩
  · refine ⟨_, c, by rw [h2], fun X hb i b hi => ?_⟩
    have hl : i < hs.length := by rw [h2]; exact (List.getElem?_eq_some_iff.1 hi).1
    have hx : hs[i]? = some hs[i] := List.getElem?_eq_getElem hl
    obtain ⟨⟨e1, e2, e3, e4⟩, hm⟩ := h3 i _ b hx hi
    have hk : ∀ k u, (hdE.f hs[i])[k]? = some u → X.cell? ⟨g, off + i * 5 + k, none⟩ = some u := fun k u hu => (hb.cell (p := ⟨g, off + i * 5 + k, none⟩) hg).trans (hcl i _ hx k u hu)
    refine ⟨g, off, hs[i].a, hs[i].n, hs[i].c, rfl, ?_, ?_, ?_, ?_, hk 4 _ rfl, hm⟩
    · rw [← e1]; exact hk 0 _ rfl
    · rw [← e2]; exact hk 1 _ rfl
    · rw [← e3]; exact hk 2 _ rfl
    · rw [← e4]; exact hk 3 _ rfl




end Go.Proofs.Ythlbokfajiahpaa

/- The helpers of the exact laws over boxes and states: each is marked, and the marks are held. -/
namespace Go.Proofs.Ythlbokfajiahpaa
open Go.RowKit

theorem set_ways {α : Type} {l : List α} {i j : Nat} {y z : α} (h : (l.set i y)[j]? = some z) : (j = i ∧ z = y) ∨ (j ≠ i ∧ l[j]? = some z) := by
  by_cases c : j = i
  · subst c
    have hl : j < l.length := by have := (List.getElem?_eq_some_iff.1 h).1; simpa using this
    rw [List.getElem?_set_self hl] at h
    exact .inl ⟨rfl, (Option.some.inj h).symm⟩
  · rw [List.getElem?_set_ne (fun e => c e.symm)] at h
    exact .inr ⟨c, h⟩

/-- One cell of a box's own put anew. -/
theorem StO.store {B : Nat} {w : World} {g n cap : Nat} {bs : List Bx} {hs : List BxH} (h : StO B w (.slice (some ⟨g, 0, none⟩) n cap) bs hs) (hn : n = hs.length) {i : Nat} {x : BxH} (hx : hs[i]? = some x) {b : Bx} (hb : bs[i]? = some b)
    (c : Nat) (hc : c < 5) (u : Value) (x' : BxH) (hf : hdE.f x' = (hdE.f x).set c u) (hmv : x'.mv = x.mv) (b' : Bx) (hb' : x'.valid = b'.valid ∧ x'.user = b'.user ∧ x'.name = b'.name ∧ x'.next = b'.next) (hm : b'.mails = b.mails) :
    StO B (w.setCell ⟨g, i * 5 + c, none⟩ u) (.slice (some ⟨g, 0, none⟩) n cap) (bs.set i b') (hs.set i x') := by
  subst hn
  have hg := grownBy_store w g (i * 5 + c) u
  have kept : ∀ (m : Value) (l : List Ml), RBuf mlE B w w m l → (∀ k, m.ownBlock = some k → (Value.slice (some ⟨g, 0, none⟩) hs.length cap).ownBlock ≠ some k) → RBuf mlE B (w.setCell ⟨g, i * 5 + c, none⟩ u) (w.setCell ⟨g, i * 5 + c, none⟩ u) m l := fun m l hm hf => by
    refine hm.shift hg ?_
    cases hmb : m.ownBlock with
    | none => exact .inl rfl
    | some k => exact .inr (fun e => hf k hmb e.symm)
  have hmvs : ∀ {j : Nat} {y : BxH}, (hs.set i x')[j]? = some y → ∃ z, hs[j]? = some z ∧ y.mv = z.mv := fun {j y} hj => by
    rcases set_ways hj with ⟨rfl, rfl⟩ | ⟨_, hj⟩
    · exact ⟨x, hx, hmv⟩
    · exact ⟨y, hj, rfl⟩
  refine ⟨(h.row.stored i x x' hx c hc u hf).here, by simp [h.len], fun j y d h1 h2 => ?_, fun j y h1 k hk => ?_, fun j k y z h1 h2 hjk q hq => ?_⟩
  · rcases set_ways h1 with ⟨rfl, rfl⟩ | ⟨hne, h1⟩
    · rcases set_ways h2 with ⟨_, rfl⟩ | ⟨hne, _⟩
      · refine ⟨hb', ?_⟩
        rw [hmv, hm]
        exact kept _ _ (h.at' j x b hx hb).2 (h.far j x hx)
      · exact absurd rfl hne
    · rcases set_ways h2 with ⟨e, _⟩ | ⟨_, h2⟩
      · exact absurd e hne
      · exact ⟨(h.at' j y d h1 h2).1, kept _ _ (h.at' j y d h1 h2).2 (h.far j y h1)⟩
  · obtain ⟨z, hz, e⟩ := hmvs h1
    rw [e] at hk
    exact h.far j z hz k hk
  · obtain ⟨y0, hy0, e1⟩ := hmvs h1
    obtain ⟨z0, hz0, e2⟩ := hmvs h2
    rw [e1] at hq
    rw [e2]
    exact h.apart j k y0 z0 hy0 hz0 hjk q hq

/-- The mails of a box put anew. -/
theorem StO.mails {B : Nat} {w w' : World} {v : Value} {bs : List Bx} {hs : List BxH} (h : StO B w v bs hs) {i : Nat} {x : BxH} (hx : hs[i]? = some x) {b : Bx} (hb : bs[i]? = some b) (ms : List Ml) (hr : RBuf mlE B w' w' x.mv ms) (hg : w.grownBy w' x.mv.ownBlock) :
    StO B w' v (bs.set i ⟨b.valid, b.user, b.name, b.next, ms⟩) hs := by
  refine ⟨h.row.shift hg ?_, by simp [h.len], fun j y d h1 h2 => ?_, h.far, h.apart⟩
  · cases hv : x.mv.ownBlock with
    | none =>
      cases hv2 : v.ownBlock with
      | none => exact .inl rfl
      | some k => exact .inr (fun e => by cases e)
    | some k => exact .inr (fun e => h.far i x hx k hv e)
  · rcases set_ways h2 with ⟨rfl, rfl⟩ | ⟨hne, h2⟩
    · rw [hx] at h1
      cases h1
      exact ⟨(h.at' j x b hx hb).1, hr⟩
    · refine ⟨(h.at' j y d h1 h2).1, (h.at' j y d h1 h2).2.shift hg ?_⟩
      cases hy : y.mv.ownBlock with
      | none => exact .inl rfl
      | some k => exact .inr (fun e => h.apart j i y x h1 hx hne k hy e.symm)

theorem StO.cellAt {B : Nat} {w : World} {g n cap : Nat} {bs : List Bx} {hs : List BxH} (h : StO B w (.slice (some ⟨g, 0, none⟩) n cap) bs hs) {i : Nat} {y : BxH} (hy : hs[i]? = some y) (hl : n = hs.length) (q : Nat) (u : Value) (hu : (hdE.f y)[q]? = some u) : w.cell? ⟨g, i * 5 + q, none⟩ = some u ∧ w.frozen? ⟨g, i * 5 + q, none⟩ = false := by
  subst hl
  exact ⟨h.row.cell rfl i y hy q u hu, h.row.loose _⟩



end Go.Proofs.Ythlbokfajiahpaa

/- Records and items: the helpers of the exact laws. -/
namespace Go.Proofs.Ythlbokfajiahpaa
open Go.RowKit

set_option maxRecDepth 100000 in
set_option maxHeartbeats 1000000 in
theorem szRec_any (r : Rc) (left : Int) (w : World) (s1 : r.user.size ≤ 9223372036854775807) (s2 : r.name.size ≤ 9223372036854775807) (s3 : r.text.size ≤ 9223372036854775807) (h0 : 0 ≤ left) (h1 : left ≤ 1099511627776) :
    Calls Try.prog 44 #[r.v, .int .i64 left] w fun e w' => (∃ x : Int, e = .returned (.int .i64 x) ∧ (x < 0 ∨ (r.user.size : Int) + r.name.size + r.text.size ≤ left) ∧ -1 ≤ x ∧ x ≤ left) ∧ Below w.heap.size w w' := by
  have b0 : Below w.heap.size w (w.alloc (.cells #[.int .i64 r.kind, .int .i64 r.valid, .int .i64 r.uid, .int .i64 r.next, .int .i64 r.flags, .string r.user, .string r.name, .string r.text] 70)) := belNew _ _
  unfold Rc.v
  by_cases hA : (r.user.size : Int) ≤ left
  · by_cases hB : (r.name.size : Int) ≤ left - r.user.size
    · by_cases hC : (r.text.size : Int) ≤ left - r.user.size - r.name.size
      · go_enter Try.func44, Try.ntmps44
        go_wp2
        go_ret
        exact ⟨⟨left - r.user.size - r.name.size - r.text.size, rfl, .inr (by omega), by omega, by omega⟩, b0⟩
      · go_enter Try.func44, Try.ntmps44
        go_wp2
        go_ret
        exact ⟨⟨-1, rfl, .inl (by omega), by omega, by omega⟩, b0⟩
    · go_enter Try.func44, Try.ntmps44
      go_wp2
      go_ret
      exact ⟨⟨-1, rfl, .inl (by omega), by omega, by omega⟩, b0⟩
  · go_enter Try.func44, Try.ntmps44
    go_wp2
    go_ret
    exact ⟨⟨-1, rfl, .inl (by omega), by omega, by omega⟩, b0⟩

set_option maxRecDepth 100000 in
set_option maxHeartbeats 1000000 in
theorem toRec_any (r : Rc) (w : World) : Calls Try.prog 45 #[r.v] w fun e w' => e = .returned r.v ∧ Below w.heap.size w w' := by
  unfold Rc.v
  go_enter Try.func45, Try.ntmps45
  go_wp2
  refine bodyPost_ret (v := .agg #[.int .i64 r.kind, .int .i64 r.valid, .int .i64 r.uid, .int .i64 r.next, .int .i64 r.flags, .string r.user, .string r.name, .string r.text]) (by simp [results, Try.results45, go_sem]) rfl ?_
  exact ⟨rfl, (((Below.refl _ _).alloc (Nat.le_refl _) _).alloc (by simp) _).alloc (by simp; omega) _⟩





end Go.Proofs.Ythlbokfajiahpaa

/- Lists copied element by element. -/
namespace Go.Proofs.Ythlbokfajiahpaa
open Go.RowKit

/-- The first i elements of l, then nothing yet. -/
def copyTo {α : Type} (z : α) (l : List α) (i : Nat) : List α := l.take i ++ List.replicate (l.length - i) z
theorem copyTo_length {α : Type} {z : α} {l : List α} {i : Nat} (h : i ≤ l.length) : (copyTo z l i).length = l.length := by simp [copyTo]; omega
theorem copyTo_zero {α : Type} (z : α) (l : List α) : copyTo z l 0 = List.replicate l.length z := by simp [copyTo]
theorem copyTo_all {α : Type} {z : α} {l : List α} {i : Nat} (h : l.length ≤ i) : copyTo z l i = l := by
  rw [copyTo, List.take_of_length_le h, show l.length - i = 0 by omega]; simp
theorem copyTo_at {α : Type} {z : α} {l : List α} {i : Nat} (h : i < l.length) : (copyTo z l i)[i]? = some z := by
  have hm : (l.take i).length = i := by simp; omega
  rw [copyTo, List.getElem?_append_right (by omega), hm, Nat.sub_self, List.getElem?_replicate, if_pos (by omega)]
theorem copyTo_set {α : Type} {z : α} {l : List α} {i : Nat} (h : i < l.length) : (copyTo z l i).set i l[i] = copyTo z l (i + 1) := by
  have hm : (l.take i).length = i := by simp; omega
  rw [copyTo, List.set_append_right _ _ (by omega), hm, Nat.sub_self, copyTo, List.take_succ_eq_append_getElem h, List.append_assoc]
  have : l.length - i = (l.length - (i + 1)) + 1 := by omega
  rw [this, List.replicate_succ]
  rfl

theorem Rows'.at {α : Type} {E : Enc α} {w : World} {a : Option Addr} {cap : Nat} {l : List α} (h : Rows' E w (.slice a l.length cap) l) (i : Nat) (hi : i < l.length) :
    ∃ g off : Nat, a = some ⟨g, off, none⟩ ∧ ∀ w', Below w.heap.size w w' → ∀ k u, (E.f l[i])[k]? = some u → w'.cell? ⟨g, off + i * E.sz + k, none⟩ = some u := by
  rcases h.ways with ⟨h0, _⟩ | ⟨_, g, off, c, hv, hc, hg, hcl⟩
  · rw [h0] at hi; simp at hi
  · simp only [Value.slice.injEq] at hv
    exact ⟨g, off, hv.1, fun w' hb k u hu => (hb.cell (p := ⟨g, off + i * E.sz + k, none⟩) hg).trans (hcl i _ (List.getElem?_eq_getElem hi) k u hu)⟩

end Go.Proofs.Ythlbokfajiahpaa

/- Lists of items that come in: how great they are, copies of them, and that two alike are alike; items marked. -/
namespace Go.Proofs.Ythlbokfajiahpaa
open Go.RowKit



/-- A whole item is stored. -/
theorem RBuf.put9 {B : Nat} {w0 w : World} {g cap : Nat} {l : List Itm} (h : RBuf itE B w0 w (.slice (some ⟨g, 0, none⟩) l.length cap) l) (i : Nat) (x : Itm) (hi : l[i]? = some x) (y : Itm) :
    RBuf itE B w0 (((((((((w.setCell ⟨g, i * 9, none⟩ (.int .i64 y.1)).setCell ⟨g, i * 9 + 1, none⟩ (.int .i64 y.2.kind)).setCell ⟨g, i * 9 + 2, none⟩ (.int .i64 y.2.valid)).setCell ⟨g, i * 9 + 3, none⟩ (.int .i64 y.2.uid)).setCell ⟨g, i * 9 + 4, none⟩ (.int .i64 y.2.next)).setCell ⟨g, i * 9 + 5, none⟩ (.int .i64 y.2.flags)).setCell ⟨g, i * 9 + 6, none⟩ (.string y.2.user)).setCell ⟨g, i * 9 + 7, none⟩ (.string y.2.name)).setCell ⟨g, i * 9 + 8, none⟩ (.string y.2.text)) (.slice (some ⟨g, 0, none⟩) l.length cap) (l.set i y) := by
  have hlt : i < l.length := (List.getElem?_eq_some_iff.1 hi).1
  have hl1 : ∀ z : Itm, (l.set i z).length = l.length := fun z => by simp
  have ha1 : ∀ z : Itm, (l.set i z)[i]? = some z := fun z => List.getElem?_set_self hlt
  have s0 : RBuf itE B w0 (w.setCell ⟨g, i * 9, none⟩ (.int .i64 y.1)) (.slice (some ⟨g, 0, none⟩) l.length cap) (l.set i (y.1, ⟨x.2.kind, x.2.valid, x.2.uid, x.2.next, x.2.flags, x.2.user, x.2.name, x.2.text⟩)) := h.stored i _ (y.1, ⟨x.2.kind, x.2.valid, x.2.uid, x.2.next, x.2.flags, x.2.user, x.2.name, x.2.text⟩) hi 0 (by decide) (.int .i64 y.1) rfl
  rw [← hl1 (y.1, ⟨x.2.kind, x.2.valid, x.2.uid, x.2.next, x.2.flags, x.2.user, x.2.name, x.2.text⟩)] at s0
  have s1 := s0.stored i _ (y.1, ⟨y.2.kind, x.2.valid, x.2.uid, x.2.next, x.2.flags, x.2.user, x.2.name, x.2.text⟩) (ha1 _) 1 (by decide) (.int .i64 y.2.kind) rfl
  rw [List.set_set, hl1] at s1
  rw [← hl1 (y.1, ⟨y.2.kind, x.2.valid, x.2.uid, x.2.next, x.2.flags, x.2.user, x.2.name, x.2.text⟩)] at s1
  have s2 := s1.stored i _ (y.1, ⟨y.2.kind, y.2.valid, x.2.uid, x.2.next, x.2.flags, x.2.user, x.2.name, x.2.text⟩) (ha1 _) 2 (by decide) (.int .i64 y.2.valid) rfl
  rw [List.set_set, hl1] at s2
  rw [← hl1 (y.1, ⟨y.2.kind, y.2.valid, x.2.uid, x.2.next, x.2.flags, x.2.user, x.2.name, x.2.text⟩)] at s2
  have s3 := s2.stored i _ (y.1, ⟨y.2.kind, y.2.valid, y.2.uid, x.2.next, x.2.flags, x.2.user, x.2.name, x.2.text⟩) (ha1 _) 3 (by decide) (.int .i64 y.2.uid) rfl
  rw [List.set_set, hl1] at s3
  rw [← hl1 (y.1, ⟨y.2.kind, y.2.valid, y.2.uid, x.2.next, x.2.flags, x.2.user, x.2.name, x.2.text⟩)] at s3
  have s4 := s3.stored i _ (y.1, ⟨y.2.kind, y.2.valid, y.2.uid, y.2.next, x.2.flags, x.2.user, x.2.name, x.2.text⟩) (ha1 _) 4 (by decide) (.int .i64 y.2.next) rfl
  rw [List.set_set, hl1] at s4
  rw [← hl1 (y.1, ⟨y.2.kind, y.2.valid, y.2.uid, y.2.next, x.2.flags, x.2.user, x.2.name, x.2.text⟩)] at s4
  have s5 := s4.stored i _ (y.1, ⟨y.2.kind, y.2.valid, y.2.uid, y.2.next, y.2.flags, x.2.user, x.2.name, x.2.text⟩) (ha1 _) 5 (by decide) (.int .i64 y.2.flags) rfl
  rw [List.set_set, hl1] at s5
  rw [← hl1 (y.1, ⟨y.2.kind, y.2.valid, y.2.uid, y.2.next, y.2.flags, x.2.user, x.2.name, x.2.text⟩)] at s5
  have s6 := s5.stored i _ (y.1, ⟨y.2.kind, y.2.valid, y.2.uid, y.2.next, y.2.flags, y.2.user, x.2.name, x.2.text⟩) (ha1 _) 6 (by decide) (.string y.2.user) rfl
  rw [List.set_set, hl1] at s6
  rw [← hl1 (y.1, ⟨y.2.kind, y.2.valid, y.2.uid, y.2.next, y.2.flags, y.2.user, x.2.name, x.2.text⟩)] at s6
  have s7 := s6.stored i _ (y.1, ⟨y.2.kind, y.2.valid, y.2.uid, y.2.next, y.2.flags, y.2.user, y.2.name, x.2.text⟩) (ha1 _) 7 (by decide) (.string y.2.name) rfl
  rw [List.set_set, hl1] at s7
  rw [← hl1 (y.1, ⟨y.2.kind, y.2.valid, y.2.uid, y.2.next, y.2.flags, y.2.user, y.2.name, x.2.text⟩)] at s7
  have s8 := s7.stored i _ (y.1, ⟨y.2.kind, y.2.valid, y.2.uid, y.2.next, y.2.flags, y.2.user, y.2.name, y.2.text⟩) (ha1 _) 8 (by decide) (.string y.2.text) rfl
  rw [List.set_set, hl1] at s8
  exact s8



/-- Items of whatever make in a row of the call's own. -/
def RItm (B : Nat) (X : World) (g n cap : Nat) : Prop := ∃ l : List Itm, l.length = n ∧ RBuf itE B X X (.slice (some ⟨g, 0, none⟩) n cap) l
theorem RItm.later {B : Nat} {X Y : World} {g n cap : Nat} (h : RItm B X g n cap) (hb : Below X.heap.size X Y) : RItm B Y g n cap := by
  obtain ⟨l, h1, h2⟩ := h
  exact ⟨l, h1, (h2.later hb).here⟩
theorem RItm.at0 {B : Nat} {X : World} {g n cap : Nat} (h : RItm B X g n cap) {i : Nat} (hi : i < n) : (∃ z : Int, X.cell? ⟨g, i * 9, none⟩ = some (.int .i64 z)) ∧ X.frozen? ⟨g, i * 9, none⟩ = false ∧ ∀ z : Int, RItm B (X.setCell ⟨g, i * 9, none⟩ (.int .i64 z)) g n cap := by
  obtain ⟨l, rfl, h2⟩ := h
  have hx : l[i]? = some l[i] := List.getElem?_eq_getElem hi
  generalize l[i] = x at hx
  exact ⟨⟨_, h2.cell rfl i x hx 0 _ rfl⟩, h2.loose _, fun z => ⟨l.set i (z, ⟨x.2.kind, x.2.valid, x.2.uid, x.2.next, x.2.flags, x.2.user, x.2.name, x.2.text⟩), by simp, (h2.stored i x (z, ⟨x.2.kind, x.2.valid, x.2.uid, x.2.next, x.2.flags, x.2.user, x.2.name, x.2.text⟩) hx 0 (by decide) (.int .i64 z) rfl).here⟩⟩
theorem RItm.at1 {B : Nat} {X : World} {g n cap : Nat} (h : RItm B X g n cap) {i : Nat} (hi : i < n) : (∃ z : Int, X.cell? ⟨g, i * 9 + 1, none⟩ = some (.int .i64 z)) ∧ X.frozen? ⟨g, i * 9 + 1, none⟩ = false ∧ ∀ z : Int, RItm B (X.setCell ⟨g, i * 9 + 1, none⟩ (.int .i64 z)) g n cap := by
  obtain ⟨l, rfl, h2⟩ := h
  have hx : l[i]? = some l[i] := List.getElem?_eq_getElem hi
  generalize l[i] = x at hx
  exact ⟨⟨_, h2.cell rfl i x hx 1 _ rfl⟩, h2.loose _, fun z => ⟨l.set i (x.1, ⟨z, x.2.valid, x.2.uid, x.2.next, x.2.flags, x.2.user, x.2.name, x.2.text⟩), by simp, (h2.stored i x (x.1, ⟨z, x.2.valid, x.2.uid, x.2.next, x.2.flags, x.2.user, x.2.name, x.2.text⟩) hx 1 (by decide) (.int .i64 z) rfl).here⟩⟩
theorem RItm.at2 {B : Nat} {X : World} {g n cap : Nat} (h : RItm B X g n cap) {i : Nat} (hi : i < n) : (∃ z : Int, X.cell? ⟨g, i * 9 + 2, none⟩ = some (.int .i64 z)) ∧ X.frozen? ⟨g, i * 9 + 2, none⟩ = false ∧ ∀ z : Int, RItm B (X.setCell ⟨g, i * 9 + 2, none⟩ (.int .i64 z)) g n cap := by
  obtain ⟨l, rfl, h2⟩ := h
  have hx : l[i]? = some l[i] := List.getElem?_eq_getElem hi
  generalize l[i] = x at hx
  exact ⟨⟨_, h2.cell rfl i x hx 2 _ rfl⟩, h2.loose _, fun z => ⟨l.set i (x.1, ⟨x.2.kind, z, x.2.uid, x.2.next, x.2.flags, x.2.user, x.2.name, x.2.text⟩), by simp, (h2.stored i x (x.1, ⟨x.2.kind, z, x.2.uid, x.2.next, x.2.flags, x.2.user, x.2.name, x.2.text⟩) hx 2 (by decide) (.int .i64 z) rfl).here⟩⟩
theorem RItm.at3 {B : Nat} {X : World} {g n cap : Nat} (h : RItm B X g n cap) {i : Nat} (hi : i < n) : (∃ z : Int, X.cell? ⟨g, i * 9 + 3, none⟩ = some (.int .i64 z)) ∧ X.frozen? ⟨g, i * 9 + 3, none⟩ = false ∧ ∀ z : Int, RItm B (X.setCell ⟨g, i * 9 + 3, none⟩ (.int .i64 z)) g n cap := by
  obtain ⟨l, rfl, h2⟩ := h
  have hx : l[i]? = some l[i] := List.getElem?_eq_getElem hi
  generalize l[i] = x at hx
  exact ⟨⟨_, h2.cell rfl i x hx 3 _ rfl⟩, h2.loose _, fun z => ⟨l.set i (x.1, ⟨x.2.kind, x.2.valid, z, x.2.next, x.2.flags, x.2.user, x.2.name, x.2.text⟩), by simp, (h2.stored i x (x.1, ⟨x.2.kind, x.2.valid, z, x.2.next, x.2.flags, x.2.user, x.2.name, x.2.text⟩) hx 3 (by decide) (.int .i64 z) rfl).here⟩⟩
theorem RItm.at4 {B : Nat} {X : World} {g n cap : Nat} (h : RItm B X g n cap) {i : Nat} (hi : i < n) : (∃ z : Int, X.cell? ⟨g, i * 9 + 4, none⟩ = some (.int .i64 z)) ∧ X.frozen? ⟨g, i * 9 + 4, none⟩ = false ∧ ∀ z : Int, RItm B (X.setCell ⟨g, i * 9 + 4, none⟩ (.int .i64 z)) g n cap := by
  obtain ⟨l, rfl, h2⟩ := h
  have hx : l[i]? = some l[i] := List.getElem?_eq_getElem hi
  generalize l[i] = x at hx
  exact ⟨⟨_, h2.cell rfl i x hx 4 _ rfl⟩, h2.loose _, fun z => ⟨l.set i (x.1, ⟨x.2.kind, x.2.valid, x.2.uid, z, x.2.flags, x.2.user, x.2.name, x.2.text⟩), by simp, (h2.stored i x (x.1, ⟨x.2.kind, x.2.valid, x.2.uid, z, x.2.flags, x.2.user, x.2.name, x.2.text⟩) hx 4 (by decide) (.int .i64 z) rfl).here⟩⟩
theorem RItm.at5 {B : Nat} {X : World} {g n cap : Nat} (h : RItm B X g n cap) {i : Nat} (hi : i < n) : (∃ z : Int, X.cell? ⟨g, i * 9 + 5, none⟩ = some (.int .i64 z)) ∧ X.frozen? ⟨g, i * 9 + 5, none⟩ = false ∧ ∀ z : Int, RItm B (X.setCell ⟨g, i * 9 + 5, none⟩ (.int .i64 z)) g n cap := by
  obtain ⟨l, rfl, h2⟩ := h
  have hx : l[i]? = some l[i] := List.getElem?_eq_getElem hi
  generalize l[i] = x at hx
  exact ⟨⟨_, h2.cell rfl i x hx 5 _ rfl⟩, h2.loose _, fun z => ⟨l.set i (x.1, ⟨x.2.kind, x.2.valid, x.2.uid, x.2.next, z, x.2.user, x.2.name, x.2.text⟩), by simp, (h2.stored i x (x.1, ⟨x.2.kind, x.2.valid, x.2.uid, x.2.next, z, x.2.user, x.2.name, x.2.text⟩) hx 5 (by decide) (.int .i64 z) rfl).here⟩⟩
theorem RItm.at6 {B : Nat} {X : World} {g n cap : Nat} (h : RItm B X g n cap) {i : Nat} (hi : i < n) : (∃ z : ByteArray, X.cell? ⟨g, i * 9 + 6, none⟩ = some (.string z)) ∧ X.frozen? ⟨g, i * 9 + 6, none⟩ = false ∧ ∀ z : ByteArray, RItm B (X.setCell ⟨g, i * 9 + 6, none⟩ (.string z)) g n cap := by
  obtain ⟨l, rfl, h2⟩ := h
  have hx : l[i]? = some l[i] := List.getElem?_eq_getElem hi
  generalize l[i] = x at hx
  exact ⟨⟨_, h2.cell rfl i x hx 6 _ rfl⟩, h2.loose _, fun z => ⟨l.set i (x.1, ⟨x.2.kind, x.2.valid, x.2.uid, x.2.next, x.2.flags, z, x.2.name, x.2.text⟩), by simp, (h2.stored i x (x.1, ⟨x.2.kind, x.2.valid, x.2.uid, x.2.next, x.2.flags, z, x.2.name, x.2.text⟩) hx 6 (by decide) (.string z) rfl).here⟩⟩
theorem RItm.at7 {B : Nat} {X : World} {g n cap : Nat} (h : RItm B X g n cap) {i : Nat} (hi : i < n) : (∃ z : ByteArray, X.cell? ⟨g, i * 9 + 7, none⟩ = some (.string z)) ∧ X.frozen? ⟨g, i * 9 + 7, none⟩ = false ∧ ∀ z : ByteArray, RItm B (X.setCell ⟨g, i * 9 + 7, none⟩ (.string z)) g n cap := by
  obtain ⟨l, rfl, h2⟩ := h
  have hx : l[i]? = some l[i] := List.getElem?_eq_getElem hi
  generalize l[i] = x at hx
  exact ⟨⟨_, h2.cell rfl i x hx 7 _ rfl⟩, h2.loose _, fun z => ⟨l.set i (x.1, ⟨x.2.kind, x.2.valid, x.2.uid, x.2.next, x.2.flags, x.2.user, z, x.2.text⟩), by simp, (h2.stored i x (x.1, ⟨x.2.kind, x.2.valid, x.2.uid, x.2.next, x.2.flags, x.2.user, z, x.2.text⟩) hx 7 (by decide) (.string z) rfl).here⟩⟩
theorem RItm.at8 {B : Nat} {X : World} {g n cap : Nat} (h : RItm B X g n cap) {i : Nat} (hi : i < n) : (∃ z : ByteArray, X.cell? ⟨g, i * 9 + 8, none⟩ = some (.string z)) ∧ X.frozen? ⟨g, i * 9 + 8, none⟩ = false ∧ ∀ z : ByteArray, RItm B (X.setCell ⟨g, i * 9 + 8, none⟩ (.string z)) g n cap := by
  obtain ⟨l, rfl, h2⟩ := h
  have hx : l[i]? = some l[i] := List.getElem?_eq_getElem hi
  generalize l[i] = x at hx
  exact ⟨⟨_, h2.cell rfl i x hx 8 _ rfl⟩, h2.loose _, fun z => ⟨l.set i (x.1, ⟨x.2.kind, x.2.valid, x.2.uid, x.2.next, x.2.flags, x.2.user, x.2.name, z⟩), by simp, (h2.stored i x (x.1, ⟨x.2.kind, x.2.valid, x.2.uid, x.2.next, x.2.flags, x.2.user, x.2.name, z⟩) hx 8 (by decide) (.string z) rfl).here⟩⟩


end Go.Proofs.Ythlbokfajiahpaa

/- States: what the law on StateOf asks, given what the program's StateOf hands back. -/
namespace Go.Proofs.Ythlbokfajiahpaa
open Go.RowKit

theorem upOf_all (f : Itm → Option Int) (l : List Itm) : (upOf f l).length ≤ l.length := by
  have := upOf_len f l l.length
  rwa [List.take_length] at this
/-- What is told is little. -/
theorem stateL_small (l : List Itm) : (stateL l).length ≤ 200 ∧ ∀ b ∈ stateL l, b.mails.length ≤ 200 := by
  unfold stateL
  by_cases h : itemsOk l
  · rw [if_pos h]
    have hl := h.2.2
    refine ⟨?_, fun b hb => ?_⟩
    · unfold tellAll
      rw [List.length_map]
      have := upOf_all (validK l) l
      omega
    · obtain ⟨v, _, rfl⟩ := List.mem_map.1 hb
      show (mailsOf v l).length ≤ 200
      unfold mailsOf
      rw [List.length_map]
      have := upOf_all (uidK v l) l
      omega
  · rw [if_neg h]
    exact ⟨by simp, fun b hb => by cases hb⟩
theorem kE_small : ∀ (k : Nat) (bs : List Bx), (∀ b ∈ bs, b.mails.length ≤ 200) → kE k bs ≤ k + 604 * bs.length
  | k, [], _ => by simp [kE]
  | k, b :: bs, h => by
    have h1 := kE_small (kB k b) bs (fun x hx => h x (List.mem_cons_of_mem _ hx))
    have h2 := h b (by simp)
    unfold kE
    unfold kB at *
    rw [List.length_cons]
    omega




end Go.Proofs.Ythlbokfajiahpaa

/- What the laws on what records tell share. -/
namespace Go.Proofs.Ythlbokfajiahpaa
open Go.RowKit

theorem big_any (a : Option Addr) (len cap : Nat) (w : World) :
    Calls Try.prog 9 #[.slice a len cap] w fun e w' => e = .returned (.bool (decide ((1048576 : Int) < (len : Int)))) ∧ w = w' := by
  go_enter Try.func9, Try.ntmps9
  go_wp2
  go_ret
  exact ⟨rfl, rfl⟩

/-- The places that are drawn, as two numbers. -/
theorem places2 {w w' : World} {l : List Int} {v : Value} (hl : l.length = 12) (hlz : ∀ z ∈ l, 0 ≤ z ∧ z < 10000) (hib : IBuf w.heap.size w w' v l) :
    ∃ (gp cp : Nat) (z0 z1 : Nat), v = .slice (some ⟨gp, 0, none⟩) 12 cp ∧ 12 ≤ cp ∧ gp < w'.heap.size ∧ w'.cell? ⟨gp, 0, none⟩ = some (.int .i64 (z0 : Int)) ∧ w'.cell? ⟨gp, 1, none⟩ = some (.int .i64 (z1 : Int)) := by
  rcases hib.ints with ⟨h, _⟩ | ⟨g, cp, hv, hcp, hg, hcl⟩
  · rw [h] at hl; cases hl
  · have e0 := List.getElem?_eq_getElem (show 0 < l.length by omega)
    have e1 := List.getElem?_eq_getElem (show 1 < l.length by omega)
    have k0 := hlz _ (List.mem_of_getElem? e0)
    have k1 := hlz _ (List.mem_of_getElem? e1)
    rw [hl] at hv hcp
    refine ⟨g, cp, l[0].toNat, l[1].toNat, hv, hcp, hg, ?_, ?_⟩
    · rw [Int.toNat_of_nonneg k0.1]; exact hcl 0 _ e0
    · rw [Int.toNat_of_nonneg k1.1]; exact hcl 1 _ e1

/-- The same items tell the same. -/
theorem items_same {l m : List Itm} (h : itemsOk l) (hm : ∀ x, x ∈ m ↔ x ∈ l) (hl : m.length ≤ 200) : itemsOk m :=
  ⟨fun x hx => h.1 x ((hm x).1 hx), fun x hx y hy => h.2.1 x ((hm x).1 hx) y ((hm y).1 hy), hl⟩
theorem state_same {l m : List Itm} (h : itemsOk l) (hm : ∀ x, x ∈ m ↔ x ∈ l) (hl : m.length ≤ 200) : stateL m = stateL l := by
  unfold stateL
  rw [if_pos h, if_pos (items_same h hm hl)]
  exact (tellAll_same h.2.1 (fun x => (hm x).symm)).symm
theorem state_none : stateL [] = [] := by
  have h := stateL_small []
  unfold stateL
  by_cases c : itemsOk []
  · rw [if_pos c]; rfl
  · rw [if_neg c]

theorem step_append_rd {α : Type} {w : World} {ops : Array Oper} {o : Oper} {a : Act} {K : Act → World → Prop} {Q : Exit → Act → World → Prop} {X : Prop} (hgd : o.guard = none) (s x : Operand) (E : Enc α)
    (ho : o.op = .call { callee := .builtin .append, args := #[s, x], argTypes := #[E.sty, E.sty] })
    (B : Nat) (v : Value) (l : List α) (hs : a.eval s = v) (hb : RBuf E B w w v l) (vx : Value) (m : List α) (hxv : a.eval x = vx) (hx : Rows' E w vx m)
    (hlen : (l.length + m.length) * (E.bytes + 1) ≤ 140737488355328)
    (h : ∀ v' w', RBuf E B w' w' v' (l ++ m) → w.grownBy w' v.ownBlock → (v'.ownBlock = v.ownBlock ∨ v'.ownBlock = some w.heap.size) → (∀ k, v.ownBlock = some k → B ≤ k ∧ k < w.heap.size) → K (a.put o.dst v') w') :
    if Region.wanted o (yielded ops a.tmps) = true then Oper.wp Try.prog o a w K Q else X := by
  have hw : Region.wanted o (yielded ops a.tmps) = true := by simp [Region.wanted, hgd]
  rw [if_pos hw]
  exact wp_append_rd s x E ho B v l hs hb vx m hxv hx hlen fun v' w' h2 h3 h4 => h v' w' h2 h3 h4 (fun k hk => hb.own.lt k hk)

end Go.Proofs.Ythlbokfajiahpaa

/- What records tell, gathered box by box, plainly. -/
namespace Go.Proofs.Ythlbokfajiahpaa

/-- What the records of one box tell, as far as they came. -/
structure Tb where
  named : Itm
  next : Int
  adds : Int → Option Itm
  flags : Int → Option Itm
def Tb.nil : Tb := ⟨(0, Rc.nil), 0, fun _ => none, fun _ => none⟩

/-- The number of what is there, 0 without it. -/
def sqO (o : Option Itm) : Int := match o with | some y => y.1 | none => 0
/-- The latest one of a mail. -/
def keepL (f : Int → Option Itm) (x : Itm) : Int → Option Itm := if sqO (f x.2.uid) < x.1 then (fun u => if u = x.2.uid then some x else f u) else f
theorem keepL_lt {f : Int → Option Itm} {x : Itm} (h : sqO (f x.2.uid) < x.1) : keepL f x = fun u => if u = x.2.uid then some x else f u := if_pos h
theorem keepL_ge {f : Int → Option Itm} {x : Itm} (h : ¬ sqO (f x.2.uid) < x.1) : keepL f x = f := if_neg h
/-- One record more. -/
def takeT (t : Tb) (x : Itm) : Tb :=
  if x.2.kind = 1 then ⟨if aheadB (fun y => y.2.next) x t.named then x else t.named, max t.next x.2.next, t.adds, t.flags⟩
  else if x.2.kind = 3 then ⟨t.named, max t.next (x.2.uid + 1), keepL t.adds x, t.flags⟩
  else if x.2.kind = 4 then ⟨t.named, t.next, t.adds, keepL t.flags x⟩
  else if x.2.kind = 5 then ⟨t.named, max t.next (x.2.uid + 1), t.adds, t.flags⟩
  else t

def fmT (l : List Itm) (v : Int) : Tb := ⟨(tellO v l).getD (0, Rc.nil), mostOf 0 (nextK v) l, fun u => bestR 3 v u l, fun u => bestR 4 v u l⟩
open Classical in
noncomputable def toldT (l : List Itm) (v : Int) : Option Tb := if ∃ x ∈ l, x.2.valid = v then some (fmT l v) else none

theorem bestO_snoc (k : Itm → Int) (p : Itm → Bool) (l : List Itm) (x : Itm) : bestO k p (l ++ [x]) = bestStep k p (bestO k p l) x := by
  unfold bestO; rw [List.foldl_append]; rfl
theorem mostOf_snoc (b : Int) (f : Itm → Int) (l : List Itm) (x : Itm) : mostOf b f (l ++ [x]) = if mostOf b f l < f x then f x else mostOf b f l := by
  unfold mostOf; rw [List.foldl_append]; rfl
theorem mostOf_ge (b : Int) (f : Itm → Int) (l : List Itm) : b ≤ mostOf b f l := (mostFold f l b).1
theorem bestStep_out {k : Itm → Int} {p : Itm → Bool} {o : Option Itm} {x : Itm} (h : p x = false) : bestStep k p o x = o := by
  unfold bestStep; rw [h]; rfl
theorem bestStep_in {k : Itm → Int} {p : Itm → Bool} {x : Itm} (h : p x = true) : bestStep k p none x = some x := by
  unfold bestStep; rw [if_pos h]
theorem bestStep_more {k : Itm → Int} {p : Itm → Bool} {x y : Itm} (h : p x = true) : bestStep k p (some y) x = if aheadB k x y then some x else some y := by
  unfold bestStep; rw [if_pos h]

/-- Without a record of it nothing is told of a box. -/
theorem fmT_none {l : List Itm} {v : Int} (h : ¬ ∃ x ∈ l, x.2.valid = v) : fmT l v = Tb.nil := by
  have hb : ∀ (k : Itm → Int) (p : Itm → Bool), (∀ x, p x = true → x.2.valid = v) → bestO k p l = none := by
    intro k p hp
    have hI := bestO_I k p l
    cases e : bestO k p l with
    | none => rfl
    | some y =>
      rw [e] at hI
      exact absurd ⟨y, hI.1, hp y hI.2.1⟩ h
  have hm : mostOf 0 (nextK v) l = 0 := by
    have : ∀ (m : List Itm), (∀ x ∈ m, nextK v x = 0) → mostOf 0 (nextK v) m = 0 := by
      intro m
      unfold mostOf
      induction m with
      | nil => intro _; rfl
      | cons x m ih =>
        intro hx
        rw [List.foldl_cons, hx x (by simp)]
        exact ih (fun y hy => hx y (List.mem_cons_of_mem _ hy))
    refine this l (fun x hx => ?_)
    unfold nextK
    rw [if_neg (fun e => h ⟨x, hx, e⟩)]
  unfold fmT Tb.nil
  congr 1
  · unfold tellO
    rw [hb _ _ (fun x hx => (of_decide_eq_true hx).2)]; rfl
  · funext u
    exact hb _ _ (fun x hx => (of_decide_eq_true hx).2.1)
  · funext u
    exact hb _ _ (fun x hx => (of_decide_eq_true hx).2.1)
theorem toldT_getD (l : List Itm) (v : Int) : (toldT l v).getD Tb.nil = fmT l v := by
  unfold toldT
  by_cases h : ∃ x ∈ l, x.2.valid = v
  · rw [if_pos h]; rfl
  · rw [if_neg h, fmT_none h]; rfl
theorem toldT_some {l : List Itm} {v : Int} {t : Tb} (h : toldT l v = some t) : t = fmT l v := by
  unfold toldT at h
  split at h
  · cases h; rfl
  · cases h

theorem fmT_other {l : List Itm} {x : Itm} {v : Int} (hv : x.2.valid ≠ v) : fmT (l ++ [x]) v = fmT l v := by
  have h0 : nextK v x = 0 := by unfold nextK; rw [if_neg hv]
  unfold fmT
  congr 1
  · unfold tellO
    rw [bestO_snoc, bestStep_out (decide_eq_false (fun c => hv c.2))]
  · rw [mostOf_snoc, h0, if_neg (by have := mostOf_ge 0 (nextK v) l; omega)]
  · funext u; unfold bestR; rw [bestO_snoc, bestStep_out (decide_eq_false (fun c => hv c.2.1))]
  · funext u; unfold bestR; rw [bestO_snoc, bestStep_out (decide_eq_false (fun c => hv c.2.1))]

theorem best_keep {kind v : Int} {l : List Itm} {x : Itm} (hv : x.2.valid = v) (hk : x.2.kind = kind) (hs : 1 ≤ x.1) : (fun u => bestR kind v u (l ++ [x])) = keepL (fun u => bestR kind v u l) x := by
  funext u
  by_cases hu : x.2.uid = u
  · have hp : decide (x.2.kind = kind ∧ x.2.valid = v ∧ x.2.uid = u) = true := decide_eq_true ⟨hk, hv, hu⟩
    have e0 : bestR kind v u (l ++ [x]) = bestStep (fun _ => 0) (fun x' => decide (x'.2.kind = kind ∧ x'.2.valid = v ∧ x'.2.uid = u)) (bestR kind v u l) x := bestO_snoc _ _ _ _
    show bestR kind v u (l ++ [x]) = _
    rw [e0]
    cases e : bestR kind v u l with
    | none =>
      have h1 : sqO ((fun u => bestR kind v u l) x.2.uid) < x.1 := by
        show sqO (bestR kind v x.2.uid l) < x.1
        rw [hu, e]; show (0 : Int) < x.1; omega
      rw [bestStep_in hp, keepL_lt h1]
      simp [hu]
    | some y =>
      rw [bestStep_more hp]
      have h0 : sqO ((fun u => bestR kind v u l) x.2.uid) = y.1 := by
        show sqO (bestR kind v x.2.uid l) = y.1
        rw [hu, e]; rfl
      by_cases c : y.1 < x.1
      · rw [keepL_lt (by rw [h0]; exact c), if_pos (by unfold aheadB; exact decide_eq_true (.inr ⟨rfl, c⟩))]; simp [hu]
      · rw [keepL_ge (by rw [h0]; exact c), if_neg (fun h => by unfold aheadB at h; have := of_decide_eq_true h; dsimp only at this; omega)]; exact e.symm
  · have e : bestR kind v u (l ++ [x]) = bestR kind v u l := by
      show bestO _ _ _ = _
      rw [bestO_snoc, bestStep_out (decide_eq_false (fun c => hu c.2.2))]; rfl
    show bestR kind v u (l ++ [x]) = _
    rw [e]
    unfold keepL
    split
    · show _ = if u = x.2.uid then some x else bestR kind v u l
      rw [if_neg (fun c => hu c.symm)]
    · rfl
theorem best_skip {kind v : Int} {l : List Itm} {x : Itm} (hk : x.2.kind ≠ kind) : (fun u => bestR kind v u (l ++ [x])) = fun u => bestR kind v u l := by
  funext u
  show bestO _ _ _ = _
  rw [bestO_snoc, bestStep_out (decide_eq_false (fun c => hk c.1))]; rfl
theorem tell_skip {v : Int} {l : List Itm} {x : Itm} (hk : x.2.kind ≠ 1) : tellO v (l ++ [x]) = tellO v l := by
  unfold tellO
  rw [bestO_snoc, bestStep_out (decide_eq_false (fun c => hk c.1))]
theorem most_max {v : Int} {l : List Itm} {x : Itm} : mostOf 0 (nextK v) (l ++ [x]) = max (mostOf 0 (nextK v) l) (nextK v x) := by
  rw [mostOf_snoc]
  split <;> omega
/-- One record more, told. -/
theorem fmT_step {l : List Itm} {x : Itm} (hs : 1 ≤ x.1) (hok : x.2.ok) : fmT (l ++ [x]) x.2.valid = takeT (fmT l x.2.valid) x := by
  have hge := mostOf_ge 0 (nextK x.2.valid) l
  unfold takeT
  by_cases h1 : x.2.kind = 1
  · rw [if_pos h1]
    have hn : 1 ≤ x.2.next := by
      have h := hok.2.2.1
      rw [if_pos h1] at h
      exact h.2.2.1
    have hnk : nextK x.2.valid x = x.2.next := by unfold nextK; rw [if_pos rfl, if_pos h1]
    unfold fmT
    rw [most_max, hnk, best_skip (by omega), best_skip (by omega)]
    congr 1
    unfold tellO
    rw [bestO_snoc]
    cases e : bestO (fun y => y.2.next) (fun y => decide (y.2.kind = 1 ∧ y.2.valid = x.2.valid)) l with
    | none =>
      rw [bestStep_in (decide_eq_true ⟨h1, rfl⟩)]
      simp only [Option.getD]
      rw [if_pos (by unfold aheadB; exact decide_eq_true (.inl (by show (0 : Int) < x.2.next; omega)))]
    | some y =>
      rw [bestStep_more (decide_eq_true ⟨h1, rfl⟩)]
      by_cases c : aheadB (fun y => y.2.next) x y = true
      · rw [if_pos c]
        show x = if aheadB (fun y => y.2.next) x y = true then x else y
        rw [if_pos c]
      · rw [if_neg c]
        show y = if aheadB (fun y => y.2.next) x y = true then x else y
        rw [if_neg c]
  rw [if_neg h1]
  by_cases h3 : x.2.kind = 3
  · rw [if_pos h3]
    have hnk : nextK x.2.valid x = x.2.uid + 1 := by unfold nextK; rw [if_pos rfl, if_neg h1, if_pos (.inl h3)]
    unfold fmT
    rw [most_max, hnk, best_keep rfl h3 hs, best_skip (kind := 4) (by omega), tell_skip h1]
  rw [if_neg h3]
  by_cases h4 : x.2.kind = 4
  · rw [if_pos h4]
    have hnk : nextK x.2.valid x = 0 := by unfold nextK; rw [if_pos rfl, if_neg h1, if_neg (by omega)]
    unfold fmT
    rw [most_max, hnk, best_keep rfl h4 hs, best_skip (kind := 3) (by omega), tell_skip h1, Int.max_eq_left hge]
  rw [if_neg h4]
  by_cases h5 : x.2.kind = 5
  · rw [if_pos h5]
    have hnk : nextK x.2.valid x = x.2.uid + 1 := by unfold nextK; rw [if_pos rfl, if_neg h1, if_pos (.inr h5)]
    unfold fmT
    rw [most_max, hnk, best_skip (kind := 3) (by omega), best_skip (kind := 4) (by omega), tell_skip h1]
  rw [if_neg h5]
  have hnk : nextK x.2.valid x = 0 := by unfold nextK; rw [if_pos rfl, if_neg h1, if_neg (by omega)]
  unfold fmT
  rw [most_max, hnk, best_skip (kind := 3) (by omega), best_skip (kind := 4) (by omega), tell_skip h1, Int.max_eq_left hge]

theorem toldT_step {l : List Itm} {x : Itm} (hs : 1 ≤ x.1) (hok : x.2.ok) (v : Int) : toldT (l ++ [x]) v = if v = x.2.valid then some (takeT ((toldT l v).getD Tb.nil) x) else toldT l v := by
  by_cases c : v = x.2.valid
  · subst c
    rw [if_pos rfl, toldT_getD]
    unfold toldT
    rw [if_pos ⟨x, by simp, rfl⟩, fmT_step hs hok]
  · rw [if_neg c]
    have hi : (∃ y ∈ l ++ [x], y.2.valid = v) ↔ ∃ y ∈ l, y.2.valid = v := by
      constructor
      · rintro ⟨y, hy, e⟩
        rcases List.mem_append.1 hy with h | h
        · exact ⟨y, h, e⟩
        · simp at h; subst h; exact absurd e.symm c
      · rintro ⟨y, hy, e⟩; exact ⟨y, List.mem_append_left _ hy, e⟩
    unfold toldT
    rw [fmT_other (fun e => c e.symm)]
    by_cases d : ∃ y ∈ l, y.2.valid = v
    · rw [if_pos d, if_pos (hi.2 d)]
    · rw [if_neg d, if_neg (fun h => d (hi.1 h))]
theorem toldT_nil (v : Int) : toldT [] v = none := by unfold toldT; rw [if_neg (by simp)]

end Go.Proofs.Ythlbokfajiahpaa
