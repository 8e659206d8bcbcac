/- Texts of our own, joined. -/
import Derived.Test.YtgdkndlkapmhjaaJj
import Derived.Test.YtgdkndlkapmhjaaJh
import Derived.Test.YtgdkndlkapmhjaaJe
import Derived.Lib.Hide
import Derived.Test.YtgdkndlkapmhjaaJf
import Derived.Test.YtgdkndlkapmhjaaJa
/- A list of texts marked and looked at again: what laws.markStringS and laws.heldStringS hand back. -/
namespace Go.Proofs.Ytgdkndlkapmhjaa
open Go.RowKit

/-- The first i texts of l marked, from the k-th mark on. -/
def markTo (k : Nat) (l : List ByteArray) (i : Nat) : List ByteArray := (List.range i).map (fun j => mark (k + j)) ++ l.drop i

theorem markTo_length {k i : Nat} {l : List ByteArray} (h : i ≤ l.length) : (markTo k l i).length = l.length := by
  simp [markTo]; omega

theorem markTo_set {k i : Nat} {l : List ByteArray} (h : i < l.length) : (markTo k l i).set i (mark (k + i)) = markTo k l (i + 1) := by
  unfold markTo
  rw [List.set_append_right _ _ (by simp)]
  simp only [List.length_map, List.length_range, Nat.sub_self]
  rw [List.drop_eq_getElem_cons h, List.set_cons_zero, List.range_succ, List.map_append, List.append_assoc]
  rfl

theorem markTo_zero (k : Nat) (l : List ByteArray) : markTo k l 0 = l := by simp [markTo]

/-- All marked. -/
def marksOf (k n : Nat) : List ByteArray := (List.range n).map (fun j => mark (k + j))
theorem markTo_all (k : Nat) (l : List ByteArray) : markTo k l l.length = marksOf k l.length := by simp [markTo, marksOf]
theorem marksOf_length (k n : Nat) : (marksOf k n).length = n := by simp [marksOf]
theorem marksOf_at {k n i : Nat} (h : i < n) : (marksOf k n)[i]? = some (mark (k + i)) := by simp [marksOf, h]

end Go.Proofs.Ytgdkndlkapmhjaa

/- The helpers of the exact laws over lists of mails: two alike are alike; each is marked, and the marks are held. -/
namespace Go.Proofs.Ytgdkndlkapmhjaa
open Go.RowKit

def Ml.v (f : Ml) : Value := .agg #[.int .i64 f.uid, .int .i64 f.flags, .string f.text]

/-- The three cells of a mail. -/
theorem ml_cells {w w' : World} {g off : Nat} {l : List Ml} (hc : ∀ j x, l[j]? = some x → ∀ k u, (mlE.f x)[k]? = some u → w.cell? ⟨g, off + j * mlE.sz + k, none⟩ = some u)
    (hg : g < w.heap.size) (hb : Below w.heap.size w w') (i : Nat) (x : Ml) (hi : l[i]? = some x) :
    w'.cell? ⟨g, off + i * 3, none⟩ = some (.int .i64 x.uid) ∧ w'.cell? ⟨g, off + i * 3 + 1, none⟩ = some (.int .i64 x.flags) ∧ w'.cell? ⟨g, off + i * 3 + 2, none⟩ = some (.string x.text) := by
  have h0 := hc i x hi 0 (.int .i64 x.uid) rfl
  have h1 := hc i x hi 1 (.int .i64 x.flags) rfl
  have h2 := hc i x hi 2 (.string x.text) rfl
  exact ⟨(hb.cell (p := ⟨g, off + i * 3, none⟩) hg).trans h0, (hb.cell (p := ⟨g, off + i * 3 + 1, none⟩) hg).trans h1, (hb.cell (p := ⟨g, off + i * 3 + 2, none⟩) hg).trans h2⟩


/-- The marks of a list of frames. -/
def markL (k : Nat) (j : Nat) : Ml := ⟨((k + 3 * j : Nat) : Int), ((k + 3 * j + 1 : Nat) : Int), mark (k + 3 * j + 2)⟩
def marksL (k n : Nat) : List Ml := (List.range n).map (markL k)
theorem marksL_length (k n : Nat) : (marksL k n).length = n := by simp [marksL]
theorem marksL_at {k n i : Nat} (h : i < n) : (marksL k n)[i]? = some (markL k i) := by simp [marksL, h]



end Go.Proofs.Ytgdkndlkapmhjaa

/- The marks of boxes, plainly. -/
namespace Go.Proofs.Ytgdkndlkapmhjaa

/-- A box with its marks from k on, and the number behind them. -/
def markB (k : Nat) (b : Bx) : Bx := ⟨((k : Nat) : Int), mark (k + 1), mark (k + 2), ((k + 3 : Nat) : Int), marksL (k + 4) b.mails.length⟩
def kB (k : Nat) (b : Bx) : Nat := k + 4 + 3 * b.mails.length
def marksB : Nat → List Bx → List Bx
  | _, [] => []
  | k, b :: bs => markB k b :: marksB (kB k b) bs
def kE : Nat → List Bx → Nat
  | k, [] => k
  | k, b :: bs => kE (kB k b) bs
theorem marksB_length : ∀ (k : Nat) (bs : List Bx), (marksB k bs).length = bs.length
  | _, [] => rfl
  | k, b :: bs => by simp [marksB, marksB_length (kB k b) bs]
theorem kE_le : ∀ (k : Nat) (bs : List Bx), k ≤ kE k bs
  | _, [] => Nat.le_refl _
  | k, b :: bs => by have := kE_le (kB k b) bs; unfold kE; unfold kB at *; omega
theorem kE_take : ∀ (k : Nat) (bs : List Bx) (i : Nat) (b : Bx), bs[i]? = some b → kE k (bs.take (i + 1)) = kB (kE k (bs.take i)) b
  | _, [], i, b, h => by cases h
  | k, c :: bs, 0, b, h => by cases h; rfl
  | k, c :: bs, i + 1, b, h => by
    show kE (kB k c) (bs.take (i + 1)) = kB (kE (kB k c) (bs.take i)) b
    exact kE_take (kB k c) bs i b h
theorem kE_take_le (k : Nat) (bs : List Bx) : ∀ i, kE k (bs.take i) ≤ kE k bs := by
  induction bs generalizing k with
  | nil => intro i; simp [kE]
  | cons b bs ih =>
    intro i
    cases i with
    | zero => exact kE_le k (b :: bs)
    | succ i => exact ih (kB k b) i
theorem marksB_at : ∀ (k : Nat) (bs : List Bx) (i : Nat) (b : Bx), bs[i]? = some b → (marksB k bs)[i]? = some (markB (kE k (bs.take i)) b)
  | _, [], i, b, h => by cases h
  | k, c :: bs, 0, b, h => by cases h; rfl
  | k, c :: bs, i + 1, b, h => by
    show (marksB (kB k c) bs)[i]? = some (markB (kE (kB k c) (bs.take i)) b)
    exact marksB_at (kB k c) bs i b h
/-- The first i marked. -/
def putB (k : Nat) (bs : List Bx) (i : Nat) : List Bx := (marksB k bs).take i ++ bs.drop i
theorem putB_zero (k : Nat) (bs : List Bx) : putB k bs 0 = bs := by simp [putB]
theorem putB_all (k : Nat) (bs : List Bx) : putB k bs bs.length = marksB k bs := by
  unfold putB
  rw [List.take_of_length_le (by rw [marksB_length]; exact Nat.le_refl _), List.drop_length, List.append_nil]
theorem putB_length (k : Nat) (bs : List Bx) (i : Nat) (h : i ≤ bs.length) : (putB k bs i).length = bs.length := by
  unfold putB
  rw [List.length_append, List.length_take, List.length_drop, marksB_length]; omega
theorem putB_at (k : Nat) (bs : List Bx) (i : Nat) (b : Bx) (h : bs[i]? = some b) : (putB k bs i)[i]? = some b := by
  have hl : i < bs.length := (List.getElem?_eq_some_iff.1 h).1
  unfold putB
  rw [List.getElem?_append_right (by rw [List.length_take, marksB_length]; omega), List.length_take, marksB_length, Nat.min_eq_left (Nat.le_of_lt hl), Nat.sub_self, List.getElem?_drop, Nat.add_zero]
  exact h
theorem putB_set (k : Nat) (bs : List Bx) (i : Nat) (b : Bx) (h : bs[i]? = some b) : (putB k bs i).set i (markB (kE k (bs.take i)) b) = putB k bs (i + 1) := by
  have hl : i < bs.length := (List.getElem?_eq_some_iff.1 h).1
  unfold putB
  rw [List.set_append_right _ _ (by rw [List.length_take, marksB_length]; omega)]
  rw [List.length_take, marksB_length, Nat.min_eq_left (Nat.le_of_lt hl), Nat.sub_self, List.drop_eq_getElem_cons hl, List.set_cons_zero, List.take_add_one, marksB_at k bs i b h, List.append_assoc]
  rfl
end Go.Proofs.Ytgdkndlkapmhjaa

/- The helpers of the exact laws over boxes and states: two alike are alike. -/
namespace Go.Proofs.Ytgdkndlkapmhjaa
open Go.RowKit

/-- Boxes that can be read. -/
def BRd (w : World) (v : Value) (bs : List Bx) : Prop := ∃ hs : List BxH, Rows' hdE w v hs ∧ hs.length = bs.length ∧
  ∀ (j : Nat) (h : BxH) (b : Bx), hs[j]? = some h → bs[j]? = some b → (h.valid = b.valid ∧ h.user = b.user ∧ h.name = b.name ∧ h.next = b.next) ∧ Rows' mlE w h.mv b.mails
theorem StO.rd {B : Nat} {w : World} {v : Value} {bs : List Bx} {hs : List BxH} (h : StO B w v bs hs) : BRd w v bs :=
  ⟨hs, h.row.rows, h.len, fun j x b h1 h2 => ⟨(h.at' j x b h1 h2).1, (h.at' j x b h1 h2).2.rows⟩⟩
theorem BRd.later {w w' : World} {v : Value} {bs : List Bx} (h : BRd w v bs) (hb : Below w.heap.size w w') : BRd w' v bs := by
  obtain ⟨hs, h1, h2, h3⟩ := h
  exact ⟨hs, h1.later hb, h2, fun j x b e1 e2 => ⟨(h3 j x b e1 e2).1, (h3 j x b e1 e2).2.later hb⟩⟩
/-- As a loop reads them. -/
theorem BRd.boxes {w : World} {v : Value} {bs : List Bx} (h : BRd w v bs) : ∃ (ad : Option Addr) (cap : Nat), v = .slice ad bs.length cap ∧ ∀ X, Below w.heap.size w X → ∀ (i : Nat) (b : Bx), bs[i]? = some b → ∃ (g off : Nat) (a : Option Addr) (n c : Nat), ad = some ⟨g, off, none⟩ ∧
    X.cell? ⟨g, off + i * 5, none⟩ = some (.int .i64 b.valid) ∧ X.cell? ⟨g, off + i * 5 + 1, none⟩ = some (.string b.user) ∧ X.cell? ⟨g, off + i * 5 + 2, none⟩ = some (.string b.name) ∧ X.cell? ⟨g, off + i * 5 + 3, none⟩ = some (.int .i64 b.next) ∧ X.cell? ⟨g, off + i * 5 + 4, none⟩ = some (.slice a n c) ∧ Rows' mlE w (.slice a n c) b.mails := by
  obtain ⟨hs, h1, h2, h3⟩ := h
  rcases h1.ways with ⟨rfl, a, c, rfl⟩ | ⟨hne, g, off, c, rfl, hc, hg, hcl⟩
  · have : bs = [] := by rw [← List.length_eq_zero_iff, ← h2]; rfl
    subst this
    exact ⟨a, c, rfl, fun X _ i b hi => by cases hi⟩
  · refine ⟨_, c, by rw [h2], fun X hb i b hi => ?_⟩
    have hl : i < hs.length := by rw [h2]; exact (List.getElem?_eq_some_iff.1 hi).1
    have hx : hs[i]? = some hs[i] := List.getElem?_eq_getElem hl
    obtain ⟨⟨e1, e2, e3, e4⟩, hm⟩ := h3 i _ b hx hi
    have hk : ∀ k u, (hdE.f hs[i])[k]? = some u → X.cell? ⟨g, off + i * 5 + k, none⟩ = some u := fun k u hu => (hb.cell (p := ⟨g, off + i * 5 + k, none⟩) hg).trans (hcl i _ hx k u hu)
    refine ⟨g, off, hs[i].a, hs[i].n, hs[i].c, rfl, ?_, ?_, ?_, ?_, hk 4 _ rfl, hm⟩
    · rw [← e1]; exact hk 0 _ rfl
    · rw [← e2]; exact hk 1 _ rfl
    · rw [← e3]; exact hk 2 _ rfl
    · rw [← e4]; exact hk 3 _ rfl




end Go.Proofs.Ytgdkndlkapmhjaa

/- The helpers of the exact laws over boxes and states: each is marked, and the marks are held. -/
namespace Go.Proofs.Ytgdkndlkapmhjaa
open Go.RowKit

theorem set_ways {α : Type} {l : List α} {i j : Nat} {y z : α} (h : (l.set i y)[j]? = some z) : (j = i ∧ z = y) ∨ (j ≠ i ∧ l[j]? = some z) := by
  by_cases c : j = i
  · subst c
    have hl : j < l.length := by have := (List.getElem?_eq_some_iff.1 h).1; simpa using this
    rw [List.getElem?_set_self hl] at h
    exact .inl ⟨rfl, (Option.some.inj h).symm⟩
  · rw [List.getElem?_set_ne (fun e => c e.symm)] at h
    exact .inr ⟨c, h⟩

/-- One cell of a box's own put anew. -/
theorem StO.store {B : Nat} {w : World} {g n cap : Nat} {bs : List Bx} {hs : List BxH} (h : StO B w (.slice (some ⟨g, 0, none⟩) n cap) bs hs) (hn : n = hs.length) {i : Nat} {x : BxH} (hx : hs[i]? = some x) {b : Bx} (hb : bs[i]? = some b)
    (c : Nat) (hc : c < 5) (u : Value) (x' : BxH) (hf : hdE.f x' = (hdE.f x).set c u) (hmv : x'.mv = x.mv) (b' : Bx) (hb' : x'.valid = b'.valid ∧ x'.user = b'.user ∧ x'.name = b'.name ∧ x'.next = b'.next) (hm : b'.mails = b.mails) :
    StO B (w.setCell ⟨g, i * 5 + c, none⟩ u) (.slice (some ⟨g, 0, none⟩) n cap) (bs.set i b') (hs.set i x') := by
  subst hn
  have hg := grownBy_store w g (i * 5 + c) u
  have kept : ∀ (m : Value) (l : List Ml), RBuf mlE B w w m l → (∀ k, m.ownBlock = some k → (Value.slice (some ⟨g, 0, none⟩) hs.length cap).ownBlock ≠ some k) → RBuf mlE B (w.setCell ⟨g, i * 5 + c, none⟩ u) (w.setCell ⟨g, i * 5 + c, none⟩ u) m l := fun m l hm hf => by
    refine hm.shift hg ?_
    cases hmb : m.ownBlock with
    | none => exact .inl rfl
    | some k => exact .inr (fun e => hf k hmb e.symm)
  have hmvs : ∀ {j : Nat} {y : BxH}, (hs.set i x')[j]? = some y → ∃ z, hs[j]? = some z ∧ y.mv = z.mv := fun {j y} hj => by
    rcases set_ways hj with ⟨rfl, rfl⟩ | ⟨_, hj⟩
    · exact ⟨x, hx, hmv⟩
    · exact ⟨y, hj, rfl⟩
  refine ⟨(h.row.stored i x x' hx c hc u hf).here, by simp [h.len], fun j y d h1 h2 => ?_, fun j y h1 k hk => ?_, fun j k y z h1 h2 hjk q hq => ?_⟩
  · rcases set_ways h1 with ⟨rfl, rfl⟩ | ⟨hne, h1⟩
    · rcases set_ways h2 with ⟨_, rfl⟩ | ⟨hne, _⟩
      · refine ⟨hb', ?_⟩
        rw [hmv, hm]
        exact kept _ _ (h.at' j x b hx hb).2 (h.far j x hx)
      · exact absurd rfl hne
    · rcases set_ways h2 with ⟨e, _⟩ | ⟨_, h2⟩
      · exact absurd e hne
      · exact ⟨(h.at' j y d h1 h2).1, kept _ _ (h.at' j y d h1 h2).2 (h.far j y h1)⟩
  · obtain ⟨z, hz, e⟩ := hmvs h1
    rw [e] at hk
    exact h.far j z hz k hk
  · obtain ⟨y0, hy0, e1⟩ := hmvs h1
    obtain ⟨z0, hz0, e2⟩ := hmvs h2
    rw [e1] at hq
    rw [e2]
    exact h.apart j k y0 z0 hy0 hz0 hjk q hq

/-- The mails of a box put anew. -/
theorem StO.mails {B : Nat} {w w' : World} {v : Value} {bs : List Bx} {hs : List BxH} (h : StO B w v bs hs) {i : Nat} {x : BxH} (hx : hs[i]? = some x) {b : Bx} (hb : bs[i]? = some b) (ms : List Ml) (hr : RBuf mlE B w' w' x.mv ms) (hg : w.grownBy w' x.mv.ownBlock) :
    StO B w' v (bs.set i ⟨b.valid, b.user, b.name, b.next, ms⟩) hs := by
  refine ⟨h.row.shift hg ?_, by simp [h.len], fun j y d h1 h2 => ?_, h.far, h.apart⟩
  · cases hv : x.mv.ownBlock with
    | none =>
      cases hv2 : v.ownBlock with
      | none => exact .inl rfl
      | some k => exact .inr (fun e => by cases e)
    | some k => exact .inr (fun e => h.far i x hx k hv e)
  · rcases set_ways h2 with ⟨rfl, rfl⟩ | ⟨hne, h2⟩
    · rw [hx] at h1
      cases h1
      exact ⟨(h.at' j x b hx hb).1, hr⟩
    · refine ⟨(h.at' j y d h1 h2).1, (h.at' j y d h1 h2).2.shift hg ?_⟩
      cases hy : y.mv.ownBlock with
      | none => exact .inl rfl
      | some k => exact .inr (fun e => h.apart j i y x h1 hx hne k hy e.symm)

theorem StO.cellAt {B : Nat} {w : World} {g n cap : Nat} {bs : List Bx} {hs : List BxH} (h : StO B w (.slice (some ⟨g, 0, none⟩) n cap) bs hs) {i : Nat} {y : BxH} (hy : hs[i]? = some y) (hl : n = hs.length) (q : Nat) (u : Value) (hu : (hdE.f y)[q]? = some u) : w.cell? ⟨g, i * 5 + q, none⟩ = some u ∧ w.frozen? ⟨g, i * 5 + q, none⟩ = false := by
  subst hl
  exact ⟨h.row.cell rfl i y hy q u hu, h.row.loose _⟩



end Go.Proofs.Ytgdkndlkapmhjaa

/- Records and items: the helpers of the exact laws. -/
namespace Go.Proofs.Ytgdkndlkapmhjaa
open Go.RowKit







end Go.Proofs.Ytgdkndlkapmhjaa

/- Lists copied element by element. -/
namespace Go.Proofs.Ytgdkndlkapmhjaa
open Go.RowKit

/-- The first i elements of l, then nothing yet. -/
def copyTo {α : Type} (z : α) (l : List α) (i : Nat) : List α := l.take i ++ List.replicate (l.length - i) z
theorem copyTo_length {α : Type} {z : α} {l : List α} {i : Nat} (h : i ≤ l.length) : (copyTo z l i).length = l.length := by simp [copyTo]; omega
theorem copyTo_zero {α : Type} (z : α) (l : List α) : copyTo z l 0 = List.replicate l.length z := by simp [copyTo]
theorem copyTo_all {α : Type} {z : α} {l : List α} {i : Nat} (h : l.length ≤ i) : copyTo z l i = l := by
  rw [copyTo, List.take_of_length_le h, show l.length - i = 0 by omega]; simp
theorem copyTo_at {α : Type} {z : α} {l : List α} {i : Nat} (h : i < l.length) : (copyTo z l i)[i]? = some z := by
  have hm : (l.take i).length = i := by simp; omega
  rw [copyTo, List.getElem?_append_right (by omega), hm, Nat.sub_self, List.getElem?_replicate, if_pos (by omega)]
theorem copyTo_set {α : Type} {z : α} {l : List α} {i : Nat} (h : i < l.length) : (copyTo z l i).set i l[i] = copyTo z l (i + 1) := by
  have hm : (l.take i).length = i := by simp; omega
  rw [copyTo, List.set_append_right _ _ (by omega), hm, Nat.sub_self, copyTo, List.take_succ_eq_append_getElem h, List.append_assoc]
  have : l.length - i = (l.length - (i + 1)) + 1 := by omega
  rw [this, List.replicate_succ]
  rfl

theorem Rows'.at {α : Type} {E : Enc α} {w : World} {a : Option Addr} {cap : Nat} {l : List α} (h : Rows' E w (.slice a l.length cap) l) (i : Nat) (hi : i < l.length) :
    ∃ g off : Nat, a = some ⟨g, off, none⟩ ∧ ∀ w', Below w.heap.size w w' → ∀ k u, (E.f l[i])[k]? = some u → w'.cell? ⟨g, off + i * E.sz + k, none⟩ = some u := by
  rcases h.ways with ⟨h0, _⟩ | ⟨_, g, off, c, hv, hc, hg, hcl⟩
  · rw [h0] at hi; simp at hi
  · simp only [Value.slice.injEq] at hv
    exact ⟨g, off, hv.1, fun w' hb k u hu => (hb.cell (p := ⟨g, off + i * E.sz + k, none⟩) hg).trans (hcl i _ (List.getElem?_eq_getElem hi) k u hu)⟩

end Go.Proofs.Ytgdkndlkapmhjaa

/- Lists of items that come in: how great they are, copies of them, and that two alike are alike; items marked. -/
namespace Go.Proofs.Ytgdkndlkapmhjaa
open Go.RowKit



/-- A whole item is stored. -/
theorem RBuf.put9 {B : Nat} {w0 w : World} {g cap : Nat} {l : List Itm} (h : RBuf itE B w0 w (.slice (some ⟨g, 0, none⟩) l.length cap) l) (i : Nat) (x : Itm) (hi : l[i]? = some x) (y : Itm) :
    RBuf itE B w0 (((((((((w.setCell ⟨g, i * 9, none⟩ (.int .i64 y.1)).setCell ⟨g, i * 9 + 1, none⟩ (.int .i64 y.2.kind)).setCell ⟨g, i * 9 + 2, none⟩ (.int .i64 y.2.valid)).setCell ⟨g, i * 9 + 3, none⟩ (.int .i64 y.2.uid)).setCell ⟨g, i * 9 + 4, none⟩ (.int .i64 y.2.next)).setCell ⟨g, i * 9 + 5, none⟩ (.int .i64 y.2.flags)).setCell ⟨g, i * 9 + 6, none⟩ (.string y.2.user)).setCell ⟨g, i * 9 + 7, none⟩ (.string y.2.name)).setCell ⟨g, i * 9 + 8, none⟩ (.string y.2.text)) (.slice (some ⟨g, 0, none⟩) l.length cap) (l.set i y) := by
  have hlt : i < l.length := (List.getElem?_eq_some_iff.1 hi).1
  have hl1 : ∀ z : Itm, (l.set i z).length = l.length := fun z => by simp
  have ha1 : ∀ z : Itm, (l.set i z)[i]? = some z := fun z => List.getElem?_set_self hlt
  have s0 : RBuf itE B w0 (w.setCell ⟨g, i * 9, none⟩ (.int .i64 y.1)) (.slice (some ⟨g, 0, none⟩) l.length cap) (l.set i (y.1, ⟨x.2.kind, x.2.valid, x.2.uid, x.2.next, x.2.flags, x.2.user, x.2.name, x.2.text⟩)) := h.stored i _ (y.1, ⟨x.2.kind, x.2.valid, x.2.uid, x.2.next, x.2.flags, x.2.user, x.2.name, x.2.text⟩) hi 0 (by decide) (.int .i64 y.1) rfl
  rw [← hl1 (y.1, ⟨x.2.kind, x.2.valid, x.2.uid, x.2.next, x.2.flags, x.2.user, x.2.name, x.2.text⟩)] at s0
  have s1 := s0.stored i _ (y.1, ⟨y.2.kind, x.2.valid, x.2.uid, x.2.next, x.2.flags, x.2.user, x.2.name, x.2.text⟩) (ha1 _) 1 (by decide) (.int .i64 y.2.kind) rfl
  rw [List.set_set, hl1] at s1
  rw [← hl1 (y.1, ⟨y.2.kind, x.2.valid, x.2.uid, x.2.next, x.2.flags, x.2.user, x.2.name, x.2.text⟩)] at s1
  have s2 := s1.stored i _ (y.1, ⟨y.2.kind, y.2.valid, x.2.uid, x.2.next, x.2.flags, x.2.user, x.2.name, x.2.text⟩) (ha1 _) 2 (by decide) (.int .i64 y.2.valid) rfl
  rw [List.set_set, hl1] at s2
  rw [← hl1 (y.1, ⟨y.2.kind, y.2.valid, x.2.uid, x.2.next, x.2.flags, x.2.user, x.2.name, x.2.text⟩)] at s2
  have s3 := s2.stored i _ (y.1, ⟨y.2.kind, y.2.valid, y.2.uid, x.2.next, x.2.flags, x.2.user, x.2.name, x.2.text⟩) (ha1 _) 3 (by decide) (.int .i64 y.2.uid) rfl
  rw [List.set_set, hl1] at s3
  rw [← hl1 (y.1, ⟨y.2.kind, y.2.valid, y.2.uid, x.2.next, x.2.flags, x.2.user, x.2.name, x.2.text⟩)] at s3
  have s4 := s3.stored i _ (y.1, ⟨y.2.kind, y.2.valid, y.2.uid, y.2.next, x.2.flags, x.2.user, x.2.name, x.2.text⟩) (ha1 _) 4 (by decide) (.int .i64 y.2.next) rfl
  rw [List.set_set, hl1] at s4
  rw [← hl1 (y.1, ⟨y.2.kind, y.2.valid, y.2.uid, y.2.next, x.2.flags, x.2.user, x.2.name, x.2.text⟩)] at s4
  have s5 := s4.stored i _ (y.1, ⟨y.2.kind, y.2.valid, y.2.uid, y.2.next, y.2.flags, x.2.user, x.2.name, x.2.text⟩) (ha1 _) 5 (by decide) (.int .i64 y.2.flags) rfl
  rw [List.set_set, hl1] at s5
  rw [← hl1 (y.1, ⟨y.2.kind, y.2.valid, y.2.uid, y.2.next, y.2.flags, x.2.user, x.2.name, x.2.text⟩)] at s5
  have s6 := s5.stored i _ (y.1, ⟨y.2.kind, y.2.valid, y.2.uid, y.2.next, y.2.flags, y.2.user, x.2.name, x.2.text⟩) (ha1 _) 6 (by decide) (.string y.2.user) rfl
  rw [List.set_set, hl1] at s6
  rw [← hl1 (y.1, ⟨y.2.kind, y.2.valid, y.2.uid, y.2.next, y.2.flags, y.2.user, x.2.name, x.2.text⟩)] at s6
  have s7 := s6.stored i _ (y.1, ⟨y.2.kind, y.2.valid, y.2.uid, y.2.next, y.2.flags, y.2.user, y.2.name, x.2.text⟩) (ha1 _) 7 (by decide) (.string y.2.name) rfl
  rw [List.set_set, hl1] at s7
  rw [← hl1 (y.1, ⟨y.2.kind, y.2.valid, y.2.uid, y.2.next, y.2.flags, y.2.user, y.2.name, x.2.text⟩)] at s7
  have s8 := s7.stored i _ (y.1, ⟨y.2.kind, y.2.valid, y.2.uid, y.2.next, y.2.flags, y.2.user, y.2.name, y.2.text⟩) (ha1 _) 8 (by decide) (.string y.2.text) rfl
  rw [List.set_set, hl1] at s8
  exact s8



/-- Items of whatever make in a row of the call's own. -/
def RItm (B : Nat) (X : World) (g n cap : Nat) : Prop := ∃ l : List Itm, l.length = n ∧ RBuf itE B X X (.slice (some ⟨g, 0, none⟩) n cap) l
theorem RItm.later {B : Nat} {X Y : World} {g n cap : Nat} (h : RItm B X g n cap) (hb : Below X.heap.size X Y) : RItm B Y g n cap := by
  obtain ⟨l, h1, h2⟩ := h
  exact ⟨l, h1, (h2.later hb).here⟩
theorem RItm.at0 {B : Nat} {X : World} {g n cap : Nat} (h : RItm B X g n cap) {i : Nat} (hi : i < n) : (∃ z : Int, X.cell? ⟨g, i * 9, none⟩ = some (.int .i64 z)) ∧ X.frozen? ⟨g, i * 9, none⟩ = false ∧ ∀ z : Int, RItm B (X.setCell ⟨g, i * 9, none⟩ (.int .i64 z)) g n cap := by
  obtain ⟨l, rfl, h2⟩ := h
  have hx : l[i]? = some l[i] := List.getElem?_eq_getElem hi
  generalize l[i] = x at hx
  exact ⟨⟨_, h2.cell rfl i x hx 0 _ rfl⟩, h2.loose _, fun z => ⟨l.set i (z, ⟨x.2.kind, x.2.valid, x.2.uid, x.2.next, x.2.flags, x.2.user, x.2.name, x.2.text⟩), by simp, (h2.stored i x (z, ⟨x.2.kind, x.2.valid, x.2.uid, x.2.next, x.2.flags, x.2.user, x.2.name, x.2.text⟩) hx 0 (by decide) (.int .i64 z) rfl).here⟩⟩
theorem RItm.at1 {B : Nat} {X : World} {g n cap : Nat} (h : RItm B X g n cap) {i : Nat} (hi : i < n) : (∃ z : Int, X.cell? ⟨g, i * 9 + 1, none⟩ = some (.int .i64 z)) ∧ X.frozen? ⟨g, i * 9 + 1, none⟩ = false ∧ ∀ z : Int, RItm B (X.setCell ⟨g, i * 9 + 1, none⟩ (.int .i64 z)) g n cap := by
  obtain ⟨l, rfl, h2⟩ := h
  have hx : l[i]? = some l[i] := List.getElem?_eq_getElem hi
  generalize l[i] = x at hx
  exact ⟨⟨_, h2.cell rfl i x hx 1 _ rfl⟩, h2.loose _, fun z => ⟨l.set i (x.1, ⟨z, x.2.valid, x.2.uid, x.2.next, x.2.flags, x.2.user, x.2.name, x.2.text⟩), by simp, (h2.stored i x (x.1, ⟨z, x.2.valid, x.2.uid, x.2.next, x.2.flags, x.2.user, x.2.name, x.2.text⟩) hx 1 (by decide) (.int .i64 z) rfl).here⟩⟩
theorem RItm.at2 {B : Nat} {X : World} {g n cap : Nat} (h : RItm B X g n cap) {i : Nat} (hi : i < n) : (∃ z : Int, X.cell? ⟨g, i * 9 + 2, none⟩ = some (.int .i64 z)) ∧ X.frozen? ⟨g, i * 9 + 2, none⟩ = false ∧ ∀ z : Int, RItm B (X.setCell ⟨g, i * 9 + 2, none⟩ (.int .i64 z)) g n cap := by
  obtain ⟨l, rfl, h2⟩ := h
  have hx : l[i]? = some l[i] := List.getElem?_eq_getElem hi
  generalize l[i] = x at hx
  exact ⟨⟨_, h2.cell rfl i x hx 2 _ rfl⟩, h2.loose _, fun z => ⟨l.set i (x.1, ⟨x.2.kind, z, x.2.uid, x.2.next, x.2.flags, x.2.user, x.2.name, x.2.text⟩), by simp, (h2.stored i x (x.1, ⟨x.2.kind, z, x.2.uid, x.2.next, x.2.flags, x.2.user, x.2.name, x.2.text⟩) hx 2 (by decide) (.int .i64 z) rfl).here⟩⟩
theorem RItm.at3 {B : Nat} {X : World} {g n cap : Nat} (h : RItm B X g n cap) {i : Nat} (hi : i < n) : (∃ z : Int, X.cell? ⟨g, i * 9 + 3, none⟩ = some (.int .i64 z)) ∧ X.frozen? ⟨g, i * 9 + 3, none⟩ = false ∧ ∀ z : Int, RItm B (X.setCell ⟨g, i * 9 + 3, none⟩ (.int .i64 z)) g n cap := by
  obtain ⟨l, rfl, h2⟩ := h
  have hx : l[i]? = some l[i] := List.getElem?_eq_getElem hi
  generalize l[i] = x at hx
  exact ⟨⟨_, h2.cell rfl i x hx 3 _ rfl⟩, h2.loose _, fun z => ⟨l.set i (x.1, ⟨x.2.kind, x.2.valid, z, x.2.next, x.2.flags, x.2.user, x.2.name, x.2.text⟩), by simp, (h2.stored i x (x.1, ⟨x.2.kind, x.2.valid, z, x.2.next, x.2.flags, x.2.user, x.2.name, x.2.text⟩) hx 3 (by decide) (.int .i64 z) rfl).here⟩⟩
theorem RItm.at4 {B : Nat} {X : World} {g n cap : Nat} (h : RItm B X g n cap) {i : Nat} (hi : i < n) : (∃ z : Int, X.cell? ⟨g, i * 9 + 4, none⟩ = some (.int .i64 z)) ∧ X.frozen? ⟨g, i * 9 + 4, none⟩ = false ∧ ∀ z : Int, RItm B (X.setCell ⟨g, i * 9 + 4, none⟩ (.int .i64 z)) g n cap := by
  obtain ⟨l, rfl, h2⟩ := h
  have hx : l[i]? = some l[i] := List.getElem?_eq_getElem hi
  generalize l[i] = x at hx
  exact ⟨⟨_, h2.cell rfl i x hx 4 _ rfl⟩, h2.loose _, fun z => ⟨l.set i (x.1, ⟨x.2.kind, x.2.valid, x.2.uid, z, x.2.flags, x.2.user, x.2.name, x.2.text⟩), by simp, (h2.stored i x (x.1, ⟨x.2.kind, x.2.valid, x.2.uid, z, x.2.flags, x.2.user, x.2.name, x.2.text⟩) hx 4 (by decide) (.int .i64 z) rfl).here⟩⟩
theorem RItm.at5 {B : Nat} {X : World} {g n cap : Nat} (h : RItm B X g n cap) {i : Nat} (hi : i < n) : (∃ z : Int, X.cell? ⟨g, i * 9 + 5, none⟩ = some (.int .i64 z)) ∧ X.frozen? ⟨g, i * 9 + 5, none⟩ = false ∧ ∀ z : Int, RItm B (X.setCell ⟨g, i * 9 + 5, none⟩ (.int .i64 z)) g n cap := by
  obtain ⟨l, rfl, h2⟩ := h
  have hx : l[i]? = some l[i] := List.getElem?_eq_getElem hi
  generalize l[i] = x at hx
  exact ⟨⟨_, h2.cell rfl i x hx 5 _ rfl⟩, h2.loose _, fun z => ⟨l.set i (x.1, ⟨x.2.kind, x.2.valid, x.2.uid, x.2.next, z, x.2.user, x.2.name, x.2.text⟩), by simp, (h2.stored i x (x.1, ⟨x.2.kind, x.2.valid, x.2.uid, x.2.next, z, x.2.user, x.2.name, x.2.text⟩) hx 5 (by decide) (.int .i64 z) rfl).here⟩⟩
theorem RItm.at6 {B : Nat} {X : World} {g n cap : Nat} (h : RItm B X g n cap) {i : Nat} (hi : i < n) : (∃ z : ByteArray, X.cell? ⟨g, i * 9 + 6, none⟩ = some (.string z)) ∧ X.frozen? ⟨g, i * 9 + 6, none⟩ = false ∧ ∀ z : ByteArray, RItm B (X.setCell ⟨g, i * 9 + 6, none⟩ (.string z)) g n cap := by
  obtain ⟨l, rfl, h2⟩ := h
  have hx : l[i]? = some l[i] := List.getElem?_eq_getElem hi
  generalize l[i] = x at hx
  exact ⟨⟨_, h2.cell rfl i x hx 6 _ rfl⟩, h2.loose _, fun z => ⟨l.set i (x.1, ⟨x.2.kind, x.2.valid, x.2.uid, x.2.next, x.2.flags, z, x.2.name, x.2.text⟩), by simp, (h2.stored i x (x.1, ⟨x.2.kind, x.2.valid, x.2.uid, x.2.next, x.2.flags, z, x.2.name, x.2.text⟩) hx 6 (by decide) (.string z) rfl).here⟩⟩
theorem RItm.at7 {B : Nat} {X : World} {g n cap : Nat} (h : RItm B X g n cap) {i : Nat} (hi : i < n) : (∃ z : ByteArray, X.cell? ⟨g, i * 9 + 7, none⟩ = some (.string z)) ∧ X.frozen? ⟨g, i * 9 + 7, none⟩ = false ∧ ∀ z : ByteArray, RItm B (X.setCell ⟨g, i * 9 + 7, none⟩ (.string z)) g n cap := by
  obtain ⟨l, rfl, h2⟩ := h
  have hx : l[i]? = some l[i] := List.getElem?_eq_getElem hi
  generalize l[i] = x at hx
  exact ⟨⟨_, h2.cell rfl i x hx 7 _ rfl⟩, h2.loose _, fun z => ⟨l.set i (x.1, ⟨x.2.kind, x.2.valid, x.2.uid, x.2.next, x.2.flags, x.2.user, z, x.2.text⟩), by simp, (h2.stored i x (x.1, ⟨x.2.kind, x.2.valid, x.2.uid, x.2.next, x.2.flags, x.2.user, z, x.2.text⟩) hx 7 (by decide) (.string z) rfl).here⟩⟩
theorem RItm.at8 {B : Nat} {X : World} {g n cap : Nat} (h : RItm B X g n cap) {i : Nat} (hi : i < n) : (∃ z : ByteArray, X.cell? ⟨g, i * 9 + 8, none⟩ = some (.string z)) ∧ X.frozen? ⟨g, i * 9 + 8, none⟩ = false ∧ ∀ z : ByteArray, RItm B (X.setCell ⟨g, i * 9 + 8, none⟩ (.string z)) g n cap := by
  obtain ⟨l, rfl, h2⟩ := h
  have hx : l[i]? = some l[i] := List.getElem?_eq_getElem hi
  generalize l[i] = x at hx
  exact ⟨⟨_, h2.cell rfl i x hx 8 _ rfl⟩, h2.loose _, fun z => ⟨l.set i (x.1, ⟨x.2.kind, x.2.valid, x.2.uid, x.2.next, x.2.flags, x.2.user, x.2.name, z⟩), by simp, (h2.stored i x (x.1, ⟨x.2.kind, x.2.valid, x.2.uid, x.2.next, x.2.flags, x.2.user, x.2.name, z⟩) hx 8 (by decide) (.string z) rfl).here⟩⟩


end Go.Proofs.Ytgdkndlkapmhjaa

/- States: what the law on StateOf asks, given what the program's StateOf hands back. -/
namespace Go.Proofs.Ytgdkndlkapmhjaa
open Go.RowKit

theorem upOf_all (f : Itm → Option Int) (l : List Itm) : (upOf f l).length ≤ l.length := by
  have := upOf_len f l l.length
  rwa [List.take_length] at this
/-- What is told is little. -/
theorem stateL_small (l : List Itm) : (stateL l).length ≤ 200 ∧ ∀ b ∈ stateL l, b.mails.length ≤ 200 := by
  unfold stateL
  by_cases h : itemsOk l
  · rw [if_pos h]
    have hl := h.2.2
    refine ⟨?_, fun b hb => ?_⟩
    · unfold tellAll
      rw [List.length_map]
      have := upOf_all (validK l) l
      omega
    · obtain ⟨v, _, rfl⟩ := List.mem_map.1 hb
      show (mailsOf v l).length ≤ 200
      unfold mailsOf
      rw [List.length_map]
      have := upOf_all (uidK v l) l
      omega
  · rw [if_neg h]
    exact ⟨by simp, fun b hb => by cases hb⟩
theorem kE_small : ∀ (k : Nat) (bs : List Bx), (∀ b ∈ bs, b.mails.length ≤ 200) → kE k bs ≤ k + 604 * bs.length
  | k, [], _ => by simp [kE]
  | k, b :: bs, h => by
    have h1 := kE_small (kB k b) bs (fun x hx => h x (List.mem_cons_of_mem _ hx))
    have h2 := h b (by simp)
    unfold kE
    unfold kB at *
    rw [List.length_cons]
    omega




end Go.Proofs.Ytgdkndlkapmhjaa

/- What stays where its own block's cells stay, and where the blocks of boxes lie. -/
namespace Go.Proofs.Ytgdkndlkapmhjaa
open Go.RowKit

/-- A list of the call's own stays where its block stays. -/
theorem RBuf.stay {α : Type} {E : Enc α} {B : Nat} {w w' : World} {v : Value} {l : List α} (h : RBuf E B w w v l) (hz : w.heap.size ≤ w'.heap.size) (hk : ∀ k, v.ownBlock = some k → w'.heap[k]? = w.heap[k]?) : RBuf E B w' w' v l := by
  refine ⟨⟨h.own.1, ?_⟩, Below.refl _ _, Nat.le_trans h.le hz⟩
  rcases h.own.2 with h0 | ⟨g, cap, cur, rfl, hg, hh, h1, h2, h3, h4⟩
  · exact .inl h0
  · exact .inr ⟨g, cap, cur, rfl, hg, (hk g rfl).trans hh, h1, h2, h3, h4⟩
theorem Box.stay {w w' : World} {b : Nat} {cs : Array Value} {t : TypeId} (h : Box w b cs t) (hk : w'.heap[b]? = w.heap[b]?) : Box w' b cs t := hk.trans h

/-- The blocks of boxes of the call's own lie below the heap's end. -/
theorem StO.beyond {B : Nat} {w : World} {v : Value} {bs : List Bx} {hs : List BxH} (h : StO B w v bs hs) {q : Nat} (hq : w.heap.size ≤ q) : v.ownBlock ≠ some q ∧ ∀ (j : Nat) (x : BxH), hs[j]? = some x → x.mv.ownBlock ≠ some q := by
  refine ⟨fun e => by have := (h.row.own.lt q e).2; omega, fun j x hj e => ?_⟩
  have hl : j < bs.length := by have := (List.getElem?_eq_some_iff.1 hj).1; have := h.len; omega
  have := ((h.at' j x _ hj (List.getElem?_eq_getElem hl)).2.own.lt q e).2
  omega

end Go.Proofs.Ytgdkndlkapmhjaa

/- What is drawn for the chapter on what records tell: states of whatever make. -/
namespace Go.Proofs.Ytgdkndlkapmhjaa
open Go.RowKit

/-- Small states. -/
def StD (bs : List Bx) : Prop := bs.length ≤ 300 ∧ ∀ b ∈ bs, b.mails.length ≤ 300 ∧ b.user.size ≤ 1000 ∧ b.name.size ≤ 1000
theorem StD.set {bs : List Bx} (h : StD bs) {j : Nat} {b : Bx} (hb : b.mails.length ≤ 300 ∧ b.user.size ≤ 1000 ∧ b.name.size ≤ 1000) : StD (bs.set j b) := by
  refine ⟨by rw [List.length_set]; exact h.1, fun y hy => ?_⟩
  rcases List.mem_or_eq_of_mem_set hy with h1 | rfl
  · exact h.2 y h1
  · exact hb
theorem StD.of_its {l : List Itm} (h : ItsD l) : StD (stateL l) := by
  have hs := stateL_small l
  refine ⟨by omega, fun b hb => ?_⟩
  have h1 := hs.2 b hb
  rw [show stateL l = tellAll l from if_pos h.1] at hb
  obtain ⟨v, hv, rfl⟩ := List.mem_map.1 hb
  refine ⟨by omega, ?_, ?_⟩
  · show ((tellO v l).elim emp (fun y => y.2.user)).size ≤ 1000
    cases ht : tellO v l with
    | none => show emp.size ≤ 1000; decide
    | some y =>
      have hy : y ∈ l := by
        have h9 := bestO_I (fun x => x.2.next) (fun x => decide (x.2.kind = 1 ∧ x.2.valid = v)) l
        unfold tellO at ht
        rw [ht] at h9
        exact h9.1
      have := (h.2.2.1 y hy).1
      show y.2.user.size ≤ 1000
      omega
  · show ((tellO v l).elim emp (fun y => y.2.name)).size ≤ 1000
    cases ht : tellO v l with
    | none => show emp.size ≤ 1000; decide
    | some y =>
      have hy : y ∈ l := by
        have h9 := bestO_I (fun x => x.2.next) (fun x => decide (x.2.kind = 1 ∧ x.2.valid = v)) l
        unfold tellO at ht
        rw [ht] at h9
        exact h9.1
      have := (h.2.2.1 y hy).2.1
      show y.2.name.size ≤ 1000
      omega

/-- What is known while a state is drawn. -/
structure StI (pc : Nat) (a : Option Addr) (len cap : Nat) (w : World) (gS B : Nat) (v : Value) (bs : List Bx) (hs : List BxH) (X : World) : Prop where
  cur : Cur X pc a len cap
  grown : w.grownBy X (some pc)
  res : Box X w.heap.size #[.slice none 0 0] 28
  sv : Box X gS #[v] 28
  st : StO B X v bs hs
  lt : w.heap.size < B
  gs : w.heap.size < gS
  ne : v.ownBlock ≠ some gS ∧ ∀ (j : Nat) (x : BxH), hs[j]? = some x → x.mv.ownBlock ≠ some gS
theorem StI.store {pc : Nat} {a : Option Addr} {len cap : Nat} {w : World} {gS B g n cb : Nat} {bs : List Bx} {hs : List BxH} {X : World} (I : StI pc a len cap w gS B (.slice (some ⟨g, 0, none⟩) n cb) bs hs X) (hw : Cur w pc a len cap) (hn : n = hs.length) {j : Nat} {y : BxH} (hy : hs[j]? = some y) {b : Bx} (hb : bs[j]? = some b)
    (c : Nat) (hc : c < 5) (u : Value) (y' : BxH) (hf : hdE.f y' = (hdE.f y).set c u) (hmv : y'.mv = y.mv) (b' : Bx) (hb' : y'.valid = b'.valid ∧ y'.user = b'.user ∧ y'.name = b'.name ∧ y'.next = b'.next) (hm : b'.mails = b.mails) :
    StI pc a len cap w gS B (.slice (some ⟨g, 0, none⟩) n cb) (bs.set j b') (hs.set j y') (X.setCell ⟨g, j * 5 + c, none⟩ u) := by
  have hg := (I.st.where'.1 g rfl).1
  have hlt := I.lt
  have hgS : gS ≠ g := fun e => I.ne.1 (by rw [e]; rfl)
  refine ⟨I.cur.new hw (by omega) _ _, grownBy_new I.grown (by omega) _ _, I.res.other (by omega) _ _, I.sv.other hgS _ _, I.st.store hn hy hb c hc u y' hf hmv b' hb' hm, I.lt, I.gs, I.ne.1, fun i z hz => ?_⟩
  rcases set_ways hz with ⟨rfl, rfl⟩ | ⟨_, hz⟩
  · rw [hmv]; exact I.ne.2 _ y hy
  · exact I.ne.2 i z hz
theorem StI.later {pc : Nat} {a : Option Addr} {len cap : Nat} {w : World} {gS B : Nat} {v : Value} {bs : List Bx} {hs : List BxH} {X Y : World} (I : StI pc a len cap w gS B v bs hs X) (hb : Below X.heap.size X Y) : StI pc a len cap w gS B v bs hs Y :=
  ⟨I.cur.below hb I.cur.lt I.cur.codeLt, grownBy_below I.grown hb I.grown.size, I.res.later hb, I.sv.later hb, I.st.later hb, I.lt, I.gs, I.ne⟩
/-- The mails of a box are another list. -/
theorem StO.newMails {B : Nat} {X Y : World} {g n cap : Nat} {bs : List Bx} {hs : List BxH} (h : StO B X (.slice (some ⟨g, 0, none⟩) n cap) bs hs) (hn : n = hs.length) {j : Nat} {y : BxH} (hy : hs[j]? = some y) {b : Bx} (hb : bs[j]? = some b)
    (pa : Option Addr) (pn pc : Nat) (ms : List Ml) (hr : RBuf mlE B Y Y (.slice pa pn pc) ms) (hg : X.grownBy Y y.mv.ownBlock) (ha : (Value.slice pa pn pc).ownBlock = y.mv.ownBlock ∨ (Value.slice pa pn pc).ownBlock = some X.heap.size) :
    StO B (Y.setCell ⟨g, j * 5 + 4, none⟩ (.slice pa pn pc)) (.slice (some ⟨g, 0, none⟩) n cap) (bs.set j ⟨b.valid, b.user, b.name, b.next, ms⟩) (hs.set j ⟨y.valid, y.user, y.name, y.next, pa, pn, pc⟩) := by
  subst hn
  have W1 := h.where'
  have hgX := (W1.1 g rfl).2
  have hr0 : RBuf hdE B Y Y (.slice (some ⟨g, 0, none⟩) hs.length cap) hs := h.row.shift hg (.inr (fun e => h.far j y hy g e.symm rfl))
  have hgs := stored_grown Y g (j * 5 + 4) (.slice pa pn pc)
  have hvg : ∀ k, (Value.slice pa pn pc).ownBlock = some k → k ≠ g := fun k hk e => by
    subst e
    rcases ha with e1 | e1
    · exact h.far j y hy k (by rw [← e1]; exact hk) rfl
    · rw [hk] at e1; have := Option.some.inj e1; omega
  have keptS : ∀ (m : Value) (ml : List Ml), RBuf mlE B Y Y m ml → (∀ k, m.ownBlock = some k → k ≠ g) → RBuf mlE B (Y.setCell ⟨g, j * 5 + 4, none⟩ (.slice pa pn pc)) (Y.setCell ⟨g, j * 5 + 4, none⟩ (.slice pa pn pc)) m ml := fun m ml hm hf => by
    refine hm.shift hgs ?_
    cases hmb : m.ownBlock with
    | none => exact .inl rfl
    | some k => exact .inr (fun e => hf k hmb (Option.some.inj e))
  have farG : ∀ {i : Nat} {z : BxH}, hs[i]? = some z → ∀ k, z.mv.ownBlock = some k → k ≠ g := fun {i z} hi k hk e => h.far i z hi k hk (by rw [e]; rfl)
  refine ⟨(hr0.stored j y ⟨y.valid, y.user, y.name, y.next, pa, pn, pc⟩ hy 4 (by decide) (.slice pa pn pc) rfl).here, by simp [h.len], fun i z d h1 h2 => ?_, fun i z h1 k hk => ?_, fun i k z u h1 h2 hik q hq => ?_⟩
  · rcases set_ways h1 with ⟨rfl, rfl⟩ | ⟨hne, h1⟩
    · rcases set_ways h2 with ⟨_, rfl⟩ | ⟨hne, _⟩
      · exact ⟨(h.at' _ y b hy hb).1, keptS _ _ hr hvg⟩
      · exact absurd rfl hne
    · rcases set_ways h2 with ⟨e, _⟩ | ⟨_, h2⟩
      · exact absurd e hne
      · refine ⟨(h.at' i z d h1 h2).1, keptS _ _ ((h.at' i z d h1 h2).2.shift hg ?_) (farG h1)⟩
        cases hz : z.mv.ownBlock with
        | none => exact .inl rfl
        | some k => exact .inr (fun e => h.apart i j z y h1 hy hne k hz e.symm)
  · rcases set_ways h1 with ⟨rfl, rfl⟩ | ⟨hne, h1⟩
    · intro e; exact hvg k hk (Option.some.inj e).symm
    · exact h.far i z h1 k hk
  · have hnew : ∀ {m : Nat} {r : BxH}, m ≠ j → hs[m]? = some r → ∀ k, (Value.slice pa pn pc).ownBlock = some k → r.mv.ownBlock ≠ some k := fun {m r} hm hr k hk e => by
      rcases ha with e1 | e1
      · exact h.apart m j r y hr hy hm k e (by rw [← e1]; exact hk)
      · rw [hk] at e1
        have h9 := Option.some.inj e1
        have := (W1.2 m r hr k e).2
        omega
    rcases set_ways h1 with ⟨ei, ez⟩ | ⟨ni, g1⟩
    · rcases set_ways h2 with ⟨ek, _⟩ | ⟨nk, g2⟩
      · exact absurd (ei.trans ek.symm) hik
      · rw [ez] at hq
        exact hnew nk g2 q hq
    · rcases set_ways h2 with ⟨_, eu⟩ | ⟨_, g2⟩
      · rw [eu]; intro e; exact hnew ni g1 q e hq
      · exact h.apart i k z u g1 g2 hik q hq
theorem StI.newMails {pc : Nat} {a : Option Addr} {len cap : Nat} {w : World} {gS B g n cb : Nat} {bs : List Bx} {hs : List BxH} {X Y : World} (I : StI pc a len cap w gS B (.slice (some ⟨g, 0, none⟩) n cb) bs hs X) (hw : Cur w pc a len cap) (hn : n = hs.length) {j : Nat} {y : BxH} (hy : hs[j]? = some y) {b : Bx} (hb : bs[j]? = some b)
    (pa : Option Addr) (pn q : Nat) (ms : List Ml) (hr : RBuf mlE B Y Y (.slice pa pn q) ms) (hg : X.grownBy Y y.mv.ownBlock) (ha : (Value.slice pa pn q).ownBlock = y.mv.ownBlock ∨ (Value.slice pa pn q).ownBlock = some X.heap.size) :
    StI pc a len cap w gS B (.slice (some ⟨g, 0, none⟩) n cb) (bs.set j ⟨b.valid, b.user, b.name, b.next, ms⟩) (hs.set j ⟨y.valid, y.user, y.name, y.next, pa, pn, q⟩) (Y.setCell ⟨g, j * 5 + 4, none⟩ (.slice pa pn q)) := by
  have hgB := (I.st.where'.1 g rfl).1
  have hlt := I.lt
  have hgS : gS ≠ g := fun e => I.ne.1 (by rw [e]; rfl)
  have hyB : ∀ k, y.mv.ownBlock = some k → B ≤ k := fun k hk => (I.st.where'.2 j y hy k hk).1
  have bXY : Below w.heap.size X Y := (Below.refl _ _).grown hg I.grown.size (fun k hk => by have := hyB k hk; omega)
  have hwlt := hw.lt
  refine ⟨(I.cur.below bXY hwlt hw.codeLt).new hw (by omega) _ _, grownBy_new (grownBy_below I.grown bXY (Nat.le_refl _)) (by omega) _ _, Box.other ((hg.block _ I.res.lt (fun e => by have := hyB _ e.symm; omega)).trans I.res) (by omega) _ _, Box.other ((hg.block _ I.sv.lt (fun e => I.ne.2 j y hy e.symm)).trans I.sv) hgS _ _, I.st.newMails hn hy hb pa pn q ms hr hg ha, I.lt, I.gs, I.ne.1, fun i z hz => ?_⟩
  rcases set_ways hz with ⟨rfl, rfl⟩ | ⟨_, hz⟩
  · show (Value.slice pa pn q).ownBlock ≠ some gS
    intro e
    rcases ha with e1 | e1
    · exact I.ne.2 _ y hy (by rw [← e1]; exact e)
    · rw [e] at e1
      have h9 := Option.some.inj e1
      have := I.sv.lt
      omega
  · exact I.ne.2 i z hz
theorem StI.cells {pc : Nat} {a : Option Addr} {len cap : Nat} {w : World} {gS B g n cb : Nat} {bs : List Bx} {hs : List BxH} {X Y : World} (I : StI pc a len cap w gS B (.slice (some ⟨g, 0, none⟩) n cb) bs hs X) (hn : n = hs.length) {j : Nat} {y : BxH} (hy : hs[j]? = some y) (hg : X.grownBy Y y.mv.ownBlock) :
    Y.cell? ⟨gS, 0, none⟩ = some (.slice (some ⟨g, 0, none⟩) n cb) ∧ Y.cell? ⟨g, j * 5 + 4, none⟩ = some (.slice y.a y.n y.c) ∧ Y.frozen? ⟨g, j * 5 + 4, none⟩ = false := by
  subst hn
  have hr0 : RBuf hdE B Y Y (.slice (some ⟨g, 0, none⟩) hs.length cb) hs := I.st.row.shift hg (.inr (fun e => I.st.far j y hy g e.symm rfl))
  have hS : Box Y gS #[.slice (some ⟨g, 0, none⟩) hs.length cb] 28 := (hg.block _ I.sv.lt (fun e => I.ne.2 j y hy e.symm)).trans I.sv
  exact ⟨hS.cell 0 _ rfl, hr0.cell rfl j y hy 4 _ rfl, hr0.loose _⟩
/-- What is written below them leaves them as they are. -/
theorem st_close {B m : Nat} {X : World} {v : Value} {bs : List Bx} {hs : List BxH} (h : StO B X v bs hs) (hm : m < B) (Y : World) (hz : X.heap.size ≤ Y.heap.size) (hk : ∀ k, m ≤ k → k < X.heap.size → Y.heap[k]? = X.heap[k]?) : BRd Y v bs := by
  have W1 := h.where'
  have S : StO B Y v bs hs := ⟨h.row.stay hz (fun k e => hk k (by have := (W1.1 k e).1; omega) (W1.1 k e).2), h.len, fun j x b e1 e2 => ⟨(h.at' j x b e1 e2).1, (h.at' j x b e1 e2).2.stay hz (fun k e => hk k (by have := (W1.2 j x e1 k e).1; omega) (W1.2 j x e1 k e).2)⟩, h.far, h.apart⟩
  exact S.rd

/-- A drawn state. -/
def StateR (pc : Nat) (a : Option Addr) (len cap : Nat) (w : World) (e : Ending) (w' : World) : Prop := ∃ (bs : List Bx) (v : Value), StD bs ∧ e = .returned (.agg #[v]) ∧ (∀ Y : World, w'.heap.size ≤ Y.heap.size → (∀ k, w.heap.size ≤ k → k < w'.heap.size → Y.heap[k]? = w'.heap[k]?) → BRd Y v bs) ∧ BRd w' v bs ∧ Cur w' pc a len cap ∧ w.grownBy w' (some pc)

set_option maxRecDepth 100000 in
set_option maxHeartbeats 8000000 in
theorem stateDrawn_any (pc : Nat) (a : Option Addr) (len cap : Nat) (w : World) (hc : Cur w pc a len cap) :
    Calls Try.prog 21 #[.pointer (some ⟨pc, 0, none⟩)] w fun e w' => StateR pc a len cap w e w' := by
  have hx := Box.new w #[.slice none 0 0] 28
  have hg0 : w.grownBy (w.alloc (.cells #[.slice none 0 0] 28)) (some pc) := World.grownBy_alloc _ _ _
  have hc0 := hc.alloc (.cells #[.slice none 0 0] 28)
  have hpc := hc.lt
  have HC := Lib.hid hc
  have hz0 : w.heap.size < (w.alloc (.cells #[.slice none 0 0] 28)).heap.size := by simp
  clear hc
  go_enter Try.func21, Try.ntmps21
  go_wp2_with fail
  generalize w.alloc (.cells #[.slice none 0 0] 28) = W at *
  refine (below_any 8 pc a len cap _ hc0 (by omega)).mono ?_
  rintro e w1 ⟨k, hk, _, rfl, hc1, hg1⟩
  have hk2 := hk (by omega)
  clear hk
  go_wp2_with fail
  refine (below_any 60 pc a len cap _ hc1 (by omega)).mono ?_
  rintro e w2 ⟨x, hxx, _, rfl, hc2, hg2⟩
  have hx2 := hxx (by omega)
  clear hxx
  go_wp2_with fail
  refine (items_any pc a len cap _ hc2).mono ?_
  rintro e w4 ⟨l, v4, hD, rfl, R4, _, hc4, hg4⟩
  obtain ⟨a4, c4, rfl⟩ := R4.form
  have gW4 := hg1.trans (hg2.trans hg4)
  have HD := Lib.hid hD
  have hl23 := hD.2.1
  have x4 := hx.cur gW4 (by omega)
  have g4 := hg0.trans gW4
  have hz4 := gW4.size
  clear hD hx hg0 hc0 hc1 hc2 hg1 hg2 hg4 gW4
  go_wp2_with fail
  refine (specStateOf_any l _ _ R4.rows (by omega) (fun y hy => by have := HD.out.2.2.1 y hy; unfold Rc.slim at this; omega)).mono ?_
  rintro e w5 ⟨bv, hs, rfl, SO, k5⟩
  have I5 : StI pc a len cap w w5.heap.size w4.heap.size bv (stateL l) hs (w5.alloc (.cells #[bv] 28)) := by
    have kA := belNew w5 (.cells #[bv] 28)
    have hz5 := k5.size
    have W1 := SO.where'
    exact ⟨(hc4.below k5 hc4.lt hc4.codeLt).alloc _, (grownBy_below g4 k5 (by omega)).trans (World.grownBy_alloc _ _ _), (x4.later k5).later kA, Box.new w5 _ _, SO.later kA, by omega, by omega, fun e => by have := (W1.1 _ e).2; omega, fun j y hj e => by have := (W1.2 j y hj _ e).2; omega⟩
  have HSD := Lib.hid (StD.of_its HD.out)
  have HSM := Lib.hid (stateL_small l).2
  obtain ⟨ab, cb, rfl⟩ := SO.row.form
  have HLEN := Lib.hid SO.len
  clear SO k5 x4 g4 hc4 R4 hz4 HD
  generalize stateL l = bs at *
  go_upto_region 4 with fail
  generalize w5.alloc (.cells #[.slice ab hs.length cb] 28) = X at I5 ⊢
  generalize w5.heap.size = gS at I5 ⊢
  generalize w4.heap.size = B at I5
  have hhl := HSD.out.1
  obtain ⟨n, hn⟩ : ∃ n, hs.length = n := ⟨_, rfl⟩
  have hlen := HLEN.out
  rw [hn] at I5 hlen ⊢
  have HN := Lib.hid hn
  have HLN := Lib.hid hlen
  have hn300 : n ≤ 300 := by omega
  clear hn hlen hhl HLEN
  by_cases h0 : n = 0
  · have I := I5
    have e0 := I5.sv.cell 0 _ rfl
    have hz : ¬ (0 : Int) < (n : Int) := by omega
    clear I5 h0
    go_upto_region 15 with fail
    clear e0
    have W1 := I.st.where'
    have S2 := I.st.shift (stored_grown _ w.heap.size 0 (.slice ab n cb)) (fun q hq => by
      have hq' : w.heap.size = q := Option.some.inj hq
      have h9 := I.lt
      exact ⟨fun e => by have := (W1.1 q e).1; omega, fun j x hj e => by have := (W1.2 j x hj q e).1; omega⟩)
    have c2 := Lib.hid (I.cur.new HC.out (Nat.le_refl _) 0 (.slice ab n cb))
    have g2 := Lib.hid (grownBy_new I.grown (Nat.le_refl w.heap.size) 0 (.slice ab n cb))
    have RD := Lib.hid S2.rd
    have RC := Lib.hid (st_close S2 I.lt)
    have d0 := I.sv.cell 0 _ rfl
    have d1 := I.res.cell 0 _ rfl
    have d2 := I.res.loose 0
    have z0 := (I.res.set 0 (.slice ab n cb)).cell 0 _ rfl
    clear W1 S2 I
    go_wp2
    refine bodyPost_ret (v := .agg #[.slice ab n cb]) (by simp [results, Try.results21, go_sem, z0]) rfl ?_
    exact ⟨bs, _, HSD.out, rfl, RC.out, RD.out, c2.out, g2.out⟩
  · rcases I5.st.row.own.2 with ⟨e1, e2⟩ | ⟨g, cp, cur, e1, _⟩
    · have := HN.out; omega
    · obtain ⟨rfl, rfl⟩ : ab = some ⟨g, 0, none⟩ ∧ cb = cp := by
        simp only [Value.slice.injEq] at e1
        exact ⟨e1.1, e1.2.2⟩
      clear e1
      obtain ⟨j, hj⟩ : ∃ j, x % n = j := ⟨_, rfl⟩
      have hjn : j < n := by rw [← hj]; exact Nat.mod_lt _ (by omega)
      have t1 : Int.tmod (x : Int) (n : Int) = (j : Int) := by rw [Int.tmod_eq_emod_of_nonneg (by omega), ← hj]; exact (Int.natCast_emod x n).symm
      have t2 : (x : Int) % (n : Int) = (j : Int) := by rw [← hj]; exact (Int.natCast_emod x n).symm
      clear hj
      have hz : (0 : Int) < (n : Int) := by omega
      have hne : ¬ (n : Int) = 0 := by omega
      have hj0 : (0 : Int) ≤ (j : Int) := by omega
      have hj1 : (j : Int) < (n : Int) := by omega
      obtain ⟨y, hy⟩ : ∃ y, hs[j]? = some y := ⟨_, List.getElem?_eq_getElem (by rw [HN.out]; exact hjn)⟩
      obtain ⟨b, hb⟩ : ∃ b, bs[j]? = some b := ⟨_, List.getElem?_eq_getElem (by have := HLN.out; omega)⟩
      obtain ⟨⟨f1, f2, f3, f4⟩, _⟩ := I5.st.at' j y b hy hb
      have hbs := HSD.out.2 b (List.mem_of_getElem? hb)
      have e0 := I5.sv.cell 0 _ rfl
      obtain ⟨q0, r0⟩ := I5.st.cellAt hy HN.out.symm 0 _ rfl
      obtain ⟨q1, r1⟩ := I5.st.cellAt hy HN.out.symm 1 _ rfl
      obtain ⟨q3, r3⟩ := I5.st.cellAt hy HN.out.symm 3 _ rfl
      obtain ⟨q4, r4⟩ := I5.st.cellAt hy HN.out.symm 4 _ rfl
      simp only [Nat.add_zero] at q0 r0
      obtain ⟨yv, yu, yn, yx, ya, yl, yc⟩ := y
      simp only at f1 f2 f3 f4
      rcases (show k = 0 ∨ k = 1 ∨ k = 2 ∨ k = 3 ∨ (k ≠ 0 ∧ k ≠ 1 ∧ k ≠ 2 ∧ k ≠ 3) by omega) with rfl | rfl | rfl | rfl | ⟨n0, n1, n2, n3⟩
      · have I : StI pc a len cap w gS B (.slice (some ⟨g, 0, none⟩) n cb) (bs.set j ⟨(x : Int) % 5, b.user, b.name, b.next, b.mails⟩) (hs.set j ⟨(x : Int) % 5, yu, yn, yx, ya, yl, yc⟩) (X.setCell ⟨g, j * 5, none⟩ (.int .i64 ((x : Int) % 5))) := I5.store HC.out HN.out.symm hy hb 0 (by decide) (.int .i64 ((x : Int) % 5)) ⟨(x : Int) % 5, yu, yn, yx, ya, yl, yc⟩ rfl rfl ⟨(x : Int) % 5, b.user, b.name, b.next, b.mails⟩ ⟨rfl, f2, f3, f4⟩ rfl
        have HI := Lib.hid I
        clear I5 I hy hb q1 q3 q4 r1 r3 r4 f1 f2 f3 f4
        go_upto_region 15 with fail
        have I := HI.out
        clear HI e0 q0 r0
        generalize X.setCell ⟨g, j * 5, none⟩ (.int .i64 ((x : Int) % 5)) = Z at I ⊢
        have W1 := I.st.where'
        have S2 := I.st.shift (stored_grown _ w.heap.size 0 (.slice (some ⟨g, 0, none⟩) n cb)) (fun q hq => by
          have hq' : w.heap.size = q := Option.some.inj hq
          have h9 := I.lt
          exact ⟨fun e => by have := (W1.1 q e).1; omega, fun j x hj e => by have := (W1.2 j x hj q e).1; omega⟩)
        have c2 := Lib.hid (I.cur.new HC.out (Nat.le_refl _) 0 (.slice (some ⟨g, 0, none⟩) n cb))
        have g2 := Lib.hid (grownBy_new I.grown (Nat.le_refl w.heap.size) 0 (.slice (some ⟨g, 0, none⟩) n cb))
        have RD := Lib.hid S2.rd
        have RC := Lib.hid (st_close S2 I.lt)
        have d0 := I.sv.cell 0 _ rfl
        have d1 := I.res.cell 0 _ rfl
        have d2 := I.res.loose 0
        have z0 := (I.res.set 0 (.slice (some ⟨g, 0, none⟩) n cb)).cell 0 _ rfl
        clear W1 S2 I
        go_wp2
        refine bodyPost_ret (v := .agg #[.slice (some ⟨g, 0, none⟩) n cb]) (by simp [results, Try.results21, go_sem, z0]) rfl ?_
        exact ⟨bs.set j ⟨(x : Int) % 5, b.user, b.name, b.next, b.mails⟩, _, HSD.out.set hbs, rfl, RC.out, RD.out, c2.out, g2.out⟩
      · have I : StI pc a len cap w gS B (.slice (some ⟨g, 0, none⟩) n cb) (bs.set j ⟨b.valid, b.user, b.name, (x : Int) % 4, b.mails⟩) (hs.set j ⟨yv, yu, yn, (x : Int) % 4, ya, yl, yc⟩) (X.setCell ⟨g, j * 5 + 3, none⟩ (.int .i64 ((x : Int) % 4))) := I5.store HC.out HN.out.symm hy hb 3 (by decide) (.int .i64 ((x : Int) % 4)) ⟨yv, yu, yn, (x : Int) % 4, ya, yl, yc⟩ rfl rfl ⟨b.valid, b.user, b.name, (x : Int) % 4, b.mails⟩ ⟨f1, f2, f3, rfl⟩ rfl
        have HI := Lib.hid I
        clear I5 I hy hb q0 q1 q4 r0 r1 r4 f1 f2 f3 f4
        go_upto_region 15 with fail
        have I := HI.out
        clear HI e0 q3 r3
        generalize X.setCell ⟨g, j * 5 + 3, none⟩ (.int .i64 ((x : Int) % 4)) = Z at I ⊢
        have W1 := I.st.where'
        have S2 := I.st.shift (stored_grown _ w.heap.size 0 (.slice (some ⟨g, 0, none⟩) n cb)) (fun q hq => by
          have hq' : w.heap.size = q := Option.some.inj hq
          have h9 := I.lt
          exact ⟨fun e => by have := (W1.1 q e).1; omega, fun j x hj e => by have := (W1.2 j x hj q e).1; omega⟩)
        have c2 := Lib.hid (I.cur.new HC.out (Nat.le_refl _) 0 (.slice (some ⟨g, 0, none⟩) n cb))
        have g2 := Lib.hid (grownBy_new I.grown (Nat.le_refl w.heap.size) 0 (.slice (some ⟨g, 0, none⟩) n cb))
        have RD := Lib.hid S2.rd
        have RC := Lib.hid (st_close S2 I.lt)
        have d0 := I.sv.cell 0 _ rfl
        have d1 := I.res.cell 0 _ rfl
        have d2 := I.res.loose 0
        have z0 := (I.res.set 0 (.slice (some ⟨g, 0, none⟩) n cb)).cell 0 _ rfl
        clear W1 S2 I
        go_wp2
        refine bodyPost_ret (v := .agg #[.slice (some ⟨g, 0, none⟩) n cb]) (by simp [results, Try.results21, go_sem, z0]) rfl ?_
        exact ⟨bs.set j ⟨b.valid, b.user, b.name, (x : Int) % 4, b.mails⟩, _, HSD.out.set hbs, rfl, RC.out, RD.out, c2.out, g2.out⟩
      · go_upto_region 12 with fail
        clear q0 r0 q3 r3 q4 r4
        obtain ⟨i, hxi⟩ : ∃ i : Nat, x % 2 = i := ⟨_, rfl⟩
        have hi : i < 2 := by omega
        have hxm : (x : Int) % 2 = (i : Int) := by omega
        have hxt : Int.tmod (x : Int) 2 = (i : Int) := by rw [Int.tmod_eq_emod_of_nonneg (by omega)]; exact hxm
        have hi2 : (i : Int) < 2 := by omega
        clear hxi
        have hcl := strs_cell' X [⟨#[]⟩, ⟨#[97, 110, 110]⟩] 9 i hi
        simp only [List.map_cons, List.map_nil] at hcl
        have hyb : (([⟨#[]⟩, ⟨#[97, 110, 110]⟩] : List ByteArray)[i]'hi).size ≤ 1000 := by
          rcases (show i = 0 ∨ i = 1 by omega) with rfl | rfl <;> (simp; try decide)
        generalize ([⟨#[]⟩, ⟨#[97, 110, 110]⟩] : List ByteArray)[i]'hi = sv at hcl hyb
        have k6 := belNew X (.cells #[.string ⟨#[]⟩, .string ⟨#[97, 110, 110]⟩] 9)
        have I6 := I5.later k6
        have e6 := I6.sv.cell 0 _ rfl
        obtain ⟨q6, r6⟩ := I6.st.cellAt hy HN.out.symm 1 _ rfl
        have I := (I6.store HC.out HN.out.symm hy hb 1 (by decide) (.string sv) ⟨yv, sv, yn, yx, ya, yl, yc⟩ rfl rfl ⟨b.valid, sv, b.name, b.next, b.mails⟩ ⟨f1, rfl, f3, f4⟩ rfl).later ((Below.refl _ _).drew)
        have HI := Lib.hid I
        have HSV : Hid (sv.size ≤ 1000) := hyb
        clear I I5 I6 k6 hy hb f1 f2 f3 f4 hyb
        go_region
        all_goals
          go_upto_region 15 with fail
          have I := HI.out
          clear HI e0 q1 r1 e6 q6 r6 hcl
          generalize ((X.alloc (.cells #[.string ⟨#[]⟩, .string ⟨#[97, 110, 110]⟩] 9)).setCell ⟨g, j * 5 + 1, none⟩ (.string sv)).drew = Z at I ⊢
          have W1 := I.st.where'
          have S2 := I.st.shift (stored_grown _ w.heap.size 0 (.slice (some ⟨g, 0, none⟩) n cb)) (fun q hq => by
            have hq' : w.heap.size = q := Option.some.inj hq
            have h9 := I.lt
            exact ⟨fun e => by have := (W1.1 q e).1; omega, fun j x hj e => by have := (W1.2 j x hj q e).1; omega⟩)
          have c2 := Lib.hid (I.cur.new HC.out (Nat.le_refl _) 0 (.slice (some ⟨g, 0, none⟩) n cb))
          have g2 := Lib.hid (grownBy_new I.grown (Nat.le_refl w.heap.size) 0 (.slice (some ⟨g, 0, none⟩) n cb))
          have RD := Lib.hid S2.rd
          have RC := Lib.hid (st_close S2 I.lt)
          have d0 := I.sv.cell 0 _ rfl
          have d1 := I.res.cell 0 _ rfl
          have d2 := I.res.loose 0
          have z0 := (I.res.set 0 (.slice (some ⟨g, 0, none⟩) n cb)).cell 0 _ rfl
          clear W1 S2 I
          go_wp2
          refine bodyPost_ret (v := .agg #[.slice (some ⟨g, 0, none⟩) n cb]) (by simp [results, Try.results21, go_sem, z0]) rfl ?_
          exact ⟨bs.set j ⟨b.valid, sv, b.name, b.next, b.mails⟩, _, HSD.out.set ⟨hbs.1, HSV.out, hbs.2.2⟩, rfl, RC.out, RD.out, c2.out, g2.out⟩
      · go_upto_region 14 with fail
        clear q0 r0 q1 r1 q3 r3
        have hx7 : Int.tmod (x : Int) 7 = (x : Int) % 7 := Int.tmod_eq_emod_of_nonneg (by omega)
        have hx9 : Int.tmod (x : Int) 9 = (x : Int) % 9 := Int.tmod_eq_emod_of_nonneg (by omega)
        have e6 := I5.sv.cell 0 _ rfl
        obtain ⟨q6, r6⟩ := I5.st.cellAt hy HN.out.symm 4 _ rfl
        have kE := belNew X (.cells #[.int .i64 ((x : Int) % 7), .int .i64 ((x : Int) % 9), .string ⟨#[]⟩] 65)
        have I6 := I5.later kE
        have e7 := I6.sv.cell 0 _ rfl
        obtain ⟨q7, r7⟩ := I6.st.cellAt hy HN.out.symm 4 _ rfl
        have kF : Below (X.alloc (.cells #[.int .i64 ((x : Int) % 7), .int .i64 ((x : Int) % 9), .string ⟨#[]⟩] 65)).heap.size (X.alloc (.cells #[.int .i64 ((x : Int) % 7), .int .i64 ((x : Int) % 9), .string ⟨#[]⟩] 65)) (X.alloc (.cells #[.int .i64 ((x : Int) % 7), .int .i64 ((x : Int) % 9), .string ⟨#[]⟩] 65)).drew := (Below.refl _ _).drew
        have I7 := Lib.hid (I6.later kF)
        have MR := Lib.hid ((I6.later kF).st.at' j _ b hy hb).2
        have HY := Lib.hid (And.intro hy hb)
        have hmb := HSM.out b (List.mem_of_getElem? hb)
        have HL7 := Lib.hid ((RBuf.lit1 mlE X (⟨(x : Int) % 7, (x : Int) % 9, ⟨#[]⟩⟩ : Ml)).later kF).here
        clear I5 I6 hy hb f1 f2 f3 f4 kE kF e0 q4 r4
        go_region_law (first
          | (refine step_append_rows (by rfl) _ _ mlE (by rfl) B _ b.mails (by rfl) MR.out X.heap.size _ [(⟨(x : Int) % 7, (x : Int) % 9, ⟨#[]⟩⟩ : Ml)] (by rfl) HL7.out (by show _ * 33 ≤ _; simp only [List.length_cons, List.length_nil]; omega) ?_; intro v8 w8 hr8 hg8 at8 lt8; obtain ⟨a8, c8, hv8⟩ := hr8.form; simp only [List.length_append, List.length_cons, List.length_nil, Nat.zero_add] at hv8; subst hv8; have I9 := Lib.hid (I7.out.newMails HC.out HN.out.symm HY.out.1 HY.out.2 a8 _ c8 _ hr8 hg8 at8); obtain ⟨e8, q8, r8⟩ := I7.out.cells HN.out.symm HY.out.1 hg8))
        all_goals
          go_upto_region 15 with fail
          have I := I9.out
          clear I9 I7 MR HL7 hr8 hg8 at8 lt8 e6 q6 r6 e7 q7 r7 e8 q8 r8
          generalize w8.setCell ⟨g, j * 5 + 4, none⟩ (.slice a8 (b.mails.length + 1) c8) = Z at I ⊢
          have W1 := I.st.where'
          have S2 := I.st.shift (stored_grown _ w.heap.size 0 (.slice (some ⟨g, 0, none⟩) n cb)) (fun q hq => by
            have hq' : w.heap.size = q := Option.some.inj hq
            have h9 := I.lt
            exact ⟨fun e => by have := (W1.1 q e).1; omega, fun j x hj e => by have := (W1.2 j x hj q e).1; omega⟩)
          have c2 := Lib.hid (I.cur.new HC.out (Nat.le_refl _) 0 (.slice (some ⟨g, 0, none⟩) n cb))
          have g2 := Lib.hid (grownBy_new I.grown (Nat.le_refl w.heap.size) 0 (.slice (some ⟨g, 0, none⟩) n cb))
          have RD := Lib.hid S2.rd
          have RC := Lib.hid (st_close S2 I.lt)
          have d0 := I.sv.cell 0 _ rfl
          have d1 := I.res.cell 0 _ rfl
          have d2 := I.res.loose 0
          have z0 := (I.res.set 0 (.slice (some ⟨g, 0, none⟩) n cb)).cell 0 _ rfl
          clear W1 S2 I
          go_wp2
          refine bodyPost_ret (v := .agg #[.slice (some ⟨g, 0, none⟩) n cb]) (by simp [results, Try.results21, go_sem, z0]) rfl ?_
          exact ⟨bs.set j ⟨b.valid, b.user, b.name, b.next, b.mails ++ [⟨(x : Int) % 7, (x : Int) % 9, ⟨#[]⟩⟩]⟩, _, HSD.out.set ⟨by simp only [List.length_append, List.length_cons, List.length_nil]; omega, hbs.2⟩, rfl, RC.out, RD.out, c2.out, g2.out⟩
      · have I := I5
        clear I5 hy hb q0 q1 q3 q4 r0 r1 r3 r4 f1 f2 f3 f4
        go_upto_region 15 with fail
        clear e0
        have W1 := I.st.where'
        have S2 := I.st.shift (stored_grown _ w.heap.size 0 (.slice (some ⟨g, 0, none⟩) n cb)) (fun q hq => by
          have hq' : w.heap.size = q := Option.some.inj hq
          have h9 := I.lt
          exact ⟨fun e => by have := (W1.1 q e).1; omega, fun j x hj e => by have := (W1.2 j x hj q e).1; omega⟩)
        have c2 := Lib.hid (I.cur.new HC.out (Nat.le_refl _) 0 (.slice (some ⟨g, 0, none⟩) n cb))
        have g2 := Lib.hid (grownBy_new I.grown (Nat.le_refl w.heap.size) 0 (.slice (some ⟨g, 0, none⟩) n cb))
        have RD := Lib.hid S2.rd
        have RC := Lib.hid (st_close S2 I.lt)
        have d0 := I.sv.cell 0 _ rfl
        have d1 := I.res.cell 0 _ rfl
        have d2 := I.res.loose 0
        have z0 := (I.res.set 0 (.slice (some ⟨g, 0, none⟩) n cb)).cell 0 _ rfl
        clear W1 S2 I
        go_wp2
        refine bodyPost_ret (v := .agg #[.slice (some ⟨g, 0, none⟩) n cb]) (by simp [results, Try.results21, go_sem, z0]) rfl ?_
        exact ⟨bs, _, HSD.out, rfl, RC.out, RD.out, c2.out, g2.out⟩

end Go.Proofs.Ytgdkndlkapmhjaa
