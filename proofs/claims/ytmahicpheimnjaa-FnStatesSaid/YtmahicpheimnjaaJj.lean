/- Texts of our own, joined. -/
import Derived.Test.YtmahicpheimnjaaJi
import Derived.Deep.QuietTactic
import Derived.BigQuiet
import Derived.Deep.RegionHeld3
import Derived.Test.YtmahicpheimnjaaJg
import Derived.Test.YtmahicpheimnjaaJe
import Derived.Lib.Hide
import Derived.Test.YtmahicpheimnjaaJd
import Derived.Test.YtmahicpheimnjaaJf
import Derived.Laws.StructEq
import Derived.Test.YtmahicpheimnjaaJc
import Derived.WalkSpells
import Derived.WalkSmall
import Derived.Test.YtmahicpheimnjaaJb
/- The marks by which a law tells whose memory a list of texts is: what laws.markText, eqStringS, markStringS and heldStringS hand back. -/
namespace Go.Proofs.Ytmahicpheimnjaa
open Go.RowKit

/-- The k-th mark. -/
def mark (k : Nat) : ByteArray := ⟨(109 :: digs k).toArray⟩

set_option maxRecDepth 100000 in
set_option maxHeartbeats 1000000 in
theorem markText_any (k : Nat) (w : World) (h1 : 1 ≤ k) (h2 : k ≤ 4611686018427387904) :
    Calls Try.prog 111 #[.int .i64 (k : Int)] w fun e w' => e = .returned (.string (mark k)) ∧ Below w.heap.size w w' := by
  have hdl := digs_len_half k k (Nat.le_refl _)
  go_enter Try.func111, Try.ntmps111
  go_wp2
  go_loopw [0, 3] (fun nv sv wr => ∃ (m : Nat) (acc : List UInt8), m ≤ k ∧ nv = .int .i64 (m : Int) ∧ sv = .string ⟨acc.toArray⟩ ∧ digs m ++ acc = digs k ∧ Below w.heap.size w wr) (fun nv _ _ => (intOf nv).toNat)
  case atStart => exact ⟨k, [], Nat.le_refl _, rfl, rfl, by simp, Below.refl _ _⟩
  case round =>
    obtain ⟨m, acc, hm, rfl, rfl, he0, hbel⟩ := hrel
    have he : Hid (digs m ++ acc = digs k) := he0
    have hal : acc.length ≤ (digs k).length := by have h1 := congrArg List.length he0; simp at h1; omega
    clear he0
    by_cases hm0 : m = 0
    · subst hm0
      have hsp := string_push 109 acc (by omega)
      go_wp2
      go_ret
      refine ⟨?_, hbel⟩
      have := he.out
      rw [digs_zero, List.nil_append] at this
      rw [mark, ← this]
      rfl
    · have hm1 : (0 : Int) < (m : Int) := by omega
      obtain ⟨b, hb0⟩ : ∃ b : UInt8, figD (m % 10) = b := ⟨_, rfl⟩
      have hbn : (b.toNat : Int) = 48 + (m : Int) % 10 := by rw [← hb0, figD_toNat (by omega)]; omega
      have hb1 : Hid (b = figD (m % 10)) := hb0.symm
      have hcv := one_string wr (48 + (m : Int) % 10) b hbn.symm
      have hsp := string_push b acc (by omega)
      clear hb0 hbn
      go_wp2
      go_roundw
      case rel => exact ⟨m / 10, b :: acc, by omega, by go_num, rfl, by rw [hb1.out]; exact digs_push he.out hm0, hbel.alloc hbel.size _⟩
      case measure => simp [intOf]; omega

theorem Strs.ways {w : World} {v : Value} {l : List ByteArray} (h : Strs w v l) : (l = [] ∧ ∃ (a : Option Addr) (cap : Nat), v = .slice a 0 cap) ∨
    (l ≠ [] ∧ ∃ g cap : Nat, v = .slice (some ⟨g, 0, none⟩) l.length cap ∧ l.length ≤ cap ∧ g < w.heap.size ∧ ∀ j b, l[j]? = some b → w.cell? ⟨g, j, none⟩ = some (.string b)) := by
  by_cases hl : l = []
  · subst hl
    rcases h with h | ⟨g, cap, hv, _⟩
    · exact .inl h
    · exact .inl ⟨rfl, _, _, hv⟩
  · rcases h with ⟨h, _⟩ | h
    · exact absurd h hl
    · exact .inr ⟨hl, h⟩

set_option maxRecDepth 100000 in
set_option maxHeartbeats 1000000 in
theorem eqStringS_same (l : List ByteArray) (va vb : Value) (w : World) (ha : Strs w va l) (hb : Strs w vb l) (hl : l.length ≤ 1099511627776) :
    Calls Try.prog 76 #[va, vb] w fun e w' => e = .returned (.bool true) ∧ Below w.heap.size w w' := by
  rcases ha.ways with ⟨rfl, a, c, rfl⟩ | ⟨hne, ga, ca, rfl, hca, hga, hcla⟩
  · rcases hb.ways with ⟨_, b, d, rfl⟩ | ⟨hne, _⟩
    · clear ha hb
      go_enter Try.func76, Try.ntmps76
      go_wp2
      go_loop [5] (fun iv => iv = .int .i64 0) (fun _ => 0)
      case atStart => rfl
      case round =>
        obtain rfl := hrel
        go_wp2
        go_ret
        exact ⟨rfl, Below.refl _ _⟩
    · exact absurd rfl hne
  · rcases hb.ways with ⟨e, _⟩ | ⟨_, gb, cb, rfl, hcb, hgb, hclb⟩
    · exact absurd e hne
    · clear ha hb
      have HA : Hid (∀ j b, l[j]? = some b → w.cell? ⟨ga, j, none⟩ = some (.string b)) := hcla
      have HB : Hid (∀ j b, l[j]? = some b → w.cell? ⟨gb, j, none⟩ = some (.string b)) := hclb
      clear hcla hclb
      go_enter Try.func76, Try.ntmps76
      go_wp2
      go_loopw [5] (fun iv wr => ∃ i : Nat, i ≤ l.length ∧ iv = .int .i64 (i : Int) ∧ Below w.heap.size w wr) (fun iv _ => l.length - (intOf iv).toNat)
      case atStart => exact ⟨0, by omega, rfl, Below.refl _ _⟩
      case round =>
        obtain ⟨i, hi, rfl, hbel⟩ := hrel
        by_cases hlt : i < l.length
        · have hg : l[i]? = some l[i] := List.getElem?_eq_getElem hlt
          have h1 := (hbel.cell (p := ⟨ga, i, none⟩) hga).trans (HA.out i _ hg)
          have h2 := (hbel.cell (p := ⟨gb, i, none⟩) hgb).trans (HB.out i _ hg)
          generalize l[i] = t at *
          have hi0 : (0 : Int) ≤ (i : Int) := by omega
          have hi1 : (i : Int) < (l.length : Int) := by omega
          clear hg
          go_wp2
          go_quiet (fail)
          go_wp2
          go_roundw
          case rel => exact ⟨i + 1, by omega, by go_num, below_drewN hbel _⟩
          case measure => simp [intOf]; omega
        · go_wp2
          go_ret
          exact ⟨rfl, hbel⟩

end Go.Proofs.Ytmahicpheimnjaa

/- A list of texts marked and looked at again: what laws.markStringS and laws.heldStringS hand back. -/
namespace Go.Proofs.Ytmahicpheimnjaa
open Go.RowKit

theorem markText_at (K : Int) (k : Nat) (w : World) (hK : K = (k : Int)) (h1 : 1 ≤ k) (h2 : k ≤ 4611686018427387904) :
    Calls Try.prog 111 #[.int .i64 K] w fun e w' => e = .returned (.string (mark k)) ∧ Below w.heap.size w w' := by
  subst hK
  exact markText_any k w h1 h2

/-- The first i texts of l marked, from the k-th mark on. -/
def markTo (k : Nat) (l : List ByteArray) (i : Nat) : List ByteArray := (List.range i).map (fun j => mark (k + j)) ++ l.drop i

theorem markTo_length {k i : Nat} {l : List ByteArray} (h : i ≤ l.length) : (markTo k l i).length = l.length := by
  simp [markTo]; omega

theorem markTo_set {k i : Nat} {l : List ByteArray} (h : i < l.length) : (markTo k l i).set i (mark (k + i)) = markTo k l (i + 1) := by
  unfold markTo
  rw [List.set_append_right _ _ (by simp)]
  simp only [List.length_map, List.length_range, Nat.sub_self]
  rw [List.drop_eq_getElem_cons h, List.set_cons_zero, List.range_succ, List.map_append, List.append_assoc]
  rfl

theorem markTo_zero (k : Nat) (l : List ByteArray) : markTo k l 0 = l := by simp [markTo]

/-- All marked. -/
def marksOf (k n : Nat) : List ByteArray := (List.range n).map (fun j => mark (k + j))
theorem markTo_all (k : Nat) (l : List ByteArray) : markTo k l l.length = marksOf k l.length := by simp [markTo, marksOf]
theorem marksOf_length (k n : Nat) : (marksOf k n).length = n := by simp [marksOf]
theorem marksOf_at {k n i : Nat} (h : i < n) : (marksOf k n)[i]? = some (mark (k + i)) := by simp [marksOf, h]

set_option maxRecDepth 100000 in
set_option maxHeartbeats 1000000 in
theorem markStringS_any (l : List ByteArray) (v : Value) (k B : Nat) (w0 w : World) (hb : SBuf B w0 w v l) (hk : 1 ≤ k) (hk2 : k + l.length ≤ 1099511627776) :
    Calls Try.prog 79 #[v, .int .i64 (k : Int)] w fun e w' => e = .returned (.int .i64 ((k + l.length : Nat) : Int)) ∧ SBuf B w0 w' v (marksOf k l.length) := by
  rcases hb.own.2 with ⟨rfl, h0⟩ | ⟨g, cap, cur, rfl, hg, hh, hnc, hcp, hcs, htake⟩
  · obtain rfl := List.length_eq_zero_iff.1 h0
    go_enter Try.func79, Try.ntmps79
    go_wp2
    go_loop [1, 5] (fun kv iv => kv = .int .i64 (k : Int) ∧ iv = .int .i64 0) (fun _ _ => 0)
    case atStart => exact ⟨rfl, rfl⟩
    case round =>
      obtain ⟨rfl, rfl⟩ := hrel
      go_wp2
      go_ret
      exact ⟨rfl, hb⟩
  · clear hh hcs htake hcp
    have hle : l.length ≤ 1099511627776 := by omega
    go_enter Try.func79, Try.ntmps79
    go_wp2
    go_loopw [1, 5] (fun kv iv wr => ∃ i : Nat, i ≤ l.length ∧ iv = .int .i64 (i : Int) ∧ kv = .int .i64 ((k + i : Nat) : Int) ∧ SBuf B w0 wr (.slice (some ⟨g, 0, none⟩) l.length cap) (markTo k l i)) (fun _ iv _ => l.length - (intOf iv).toNat)
    case atStart => exact ⟨0, by omega, rfl, rfl, by rw [markTo_zero]; exact hb⟩
    case round =>
      obtain ⟨i, hi, rfl, rfl, hbr⟩ := hrel
      by_cases hlt : i < l.length
      · have hi0 : (0 : Int) ≤ (i : Int) := by omega
        have hi1 : (i : Int) < (l.length : Int) := by omega
        have hml := markTo_length (k := k) hi
        have hms : Hid ((markTo k l i).set i (mark (k + i)) = markTo k l (i + 1)) := markTo_set hlt
        have HF : Hid (∀ w1, Below wr.heap.size wr w1 → ∃ t, w1.cell? ⟨g, i, none⟩ = some (.string t) ∧ w1.frozen? ⟨g, i, none⟩ = false) := by
          intro w1 hb1
          have hb2 := hbr.later hb1
          rw [← hml] at hb2
          refine ⟨(markTo k l i)[i]'(by omega), ?_, hb2.own.frozenAt i⟩
          rw [hb2.own.cellAt i (by omega)]
          simp [strV]
        go_wp2_with (go_at_call 111; refine (markText_at _ (k + i) _ (by omega) (by omega) (by omega)).mono ?_; rintro e w1 ⟨rfl, hb1⟩; obtain ⟨t, hc1, hf1⟩ := HF.out w1 hb1)
        have hb2 := hbr.later hb1
        have hst : SBuf B w0 (w1.setCell ⟨g, i, none⟩ (.string (mark (k + i)))) (.slice (some ⟨g, 0, none⟩) l.length cap) (markTo k l (i + 1)) := by
          rw [← hml] at hb2
          have := hb2.stored i (mark (k + i))
          rw [hms.out, hml] at this
          exact this
        go_roundw
        case rel => exact ⟨i + 1, by omega, by go_num, by go_num, hst⟩
        case measure => simp [intOf]; omega
      · have hfin : Hid (i = l.length) := by show i = l.length; omega
        go_wp2
        go_ret
        refine ⟨?_, ?_⟩
        · rw [← hfin.out]; rfl
        · have := hbr
          rw [hfin.out, markTo_all] at this
          exact this

end Go.Proofs.Ytmahicpheimnjaa

/- The helpers of the exact laws over lists of mails: two alike are alike; each is marked, and the marks are held. -/
namespace Go.Proofs.Ytmahicpheimnjaa
open Go.RowKit

def Ml.v (f : Ml) : Value := .agg #[.int .i64 f.uid, .int .i64 f.flags, .string f.text]

/-- The three cells of a mail. -/
theorem ml_cells {w w' : World} {g off : Nat} {l : List Ml} (hc : ∀ j x, l[j]? = some x → ∀ k u, (mlE.f x)[k]? = some u → w.cell? ⟨g, off + j * mlE.sz + k, none⟩ = some u)
    (hg : g < w.heap.size) (hb : Below w.heap.size w w') (i : Nat) (x : Ml) (hi : l[i]? = some x) :
    w'.cell? ⟨g, off + i * 3, none⟩ = some (.int .i64 x.uid) ∧ w'.cell? ⟨g, off + i * 3 + 1, none⟩ = some (.int .i64 x.flags) ∧ w'.cell? ⟨g, off + i * 3 + 2, none⟩ = some (.string x.text) := by
  have h0 := hc i x hi 0 (.int .i64 x.uid) rfl
  have h1 := hc i x hi 1 (.int .i64 x.flags) rfl
  have h2 := hc i x hi 2 (.string x.text) rfl
  exact ⟨(hb.cell (p := ⟨g, off + i * 3, none⟩) hg).trans h0, (hb.cell (p := ⟨g, off + i * 3 + 1, none⟩) hg).trans h1, (hb.cell (p := ⟨g, off + i * 3 + 2, none⟩) hg).trans h2⟩


/-- The marks of a list of frames. -/
def markL (k : Nat) (j : Nat) : Ml := ⟨((k + 3 * j : Nat) : Int), ((k + 3 * j + 1 : Nat) : Int), mark (k + 3 * j + 2)⟩
def marksL (k n : Nat) : List Ml := (List.range n).map (markL k)
theorem marksL_length (k n : Nat) : (marksL k n).length = n := by simp [marksL]
theorem marksL_at {k n i : Nat} (h : i < n) : (marksL k n)[i]? = some (markL k i) := by simp [marksL, h]



end Go.Proofs.Ytmahicpheimnjaa

/- The helpers of the exact laws over boxes and states: two alike are alike. -/
namespace Go.Proofs.Ytmahicpheimnjaa
open Go.RowKit

/-- Boxes that can be read. -/
def BRd (w : World) (v : Value) (bs : List Bx) : Prop := ∃ hs : List BxH, Rows' hdE w v hs ∧ hs.length = bs.length ∧
  ∀ (j : Nat) (h : BxH) (b : Bx), hs[j]? = some h → bs[j]? = some b → (h.valid = b.valid ∧ h.user = b.user ∧ h.name = b.name ∧ h.next = b.next) ∧ Rows' mlE w h.mv b.mails
theorem StO.rd {B : Nat} {w : World} {v : Value} {bs : List Bx} {hs : List BxH} (h : StO B w v bs hs) : BRd w v bs :=
  ⟨hs, h.row.rows, h.len, fun j x b h1 h2 => ⟨(h.at' j x b h1 h2).1, (h.at' j x b h1 h2).2.rows⟩⟩
theorem BRd.later {w w' : World} {v : Value} {bs : List Bx} (h : BRd w v bs) (hb : Below w.heap.size w w') : BRd w' v bs := by
  obtain ⟨hs, h1, h2, h3⟩ := h
  exact ⟨hs, h1.later hb, h2, fun j x b e1 e2 => ⟨(h3 j x b e1 e2).1, (h3 j x b e1 e2).2.later hb⟩⟩
/-- As a loop reads them. -/
theorem BRd.boxes {w : World} {v : Value} {bs : List Bx} (h : BRd w v bs) : ∃ (ad : Option Addr) (cap : Nat), v = .slice ad bs.length cap ∧ ∀ X, Below w.heap.size w X → ∀ (i : Nat) (b : Bx), bs[i]? = some b → ∃ (g off : Nat) (a : Option Addr) (n c : Nat), ad = some ⟨g, off, none⟩ ∧
    X.cell? ⟨g, off + i * 5, none⟩ = some (.int .i64 b.valid) ∧ X.cell? ⟨g, off + i * 5 + 1, none⟩ = some (.string b.user) ∧ X.cell? ⟨g, off + i * 5 + 2, none⟩ = some (.string b.name) ∧ X.cell? ⟨g, off + i * 5 + 3, none⟩ = some (.int .i64 b.next) ∧ X.cell? ⟨g, off + i * 5 + 4, none⟩ = some (.slice a n c) ∧ Rows' mlE w (.slice a n c) b.mails := by
  obtain ⟨hs, h1, h2, h3⟩ := h
  rcases h1.ways with ⟨rfl, a, c, rfl⟩ | ⟨hne, g, off, c, rfl, hc, hg, hcl⟩
  · have : bs = [] := by rw [← List.length_eq_zero_iff, ← h2]; rfl
    subst this
    exact ⟨a, c, rfl, fun X _ i b hi => by cases hi⟩
  · refine ⟨_, c, by rw [h2], fun X hb i b hi => ?_⟩
    have hl : i < hs.length := by rw [h2]; exact (List.getElem?_eq_some_iff.1 hi).1
    have hx : hs[i]? = some hs[i] := List.getElem?_eq_getElem hl
    obtain ⟨⟨e1, e2, e3, e4⟩, hm⟩ := h3 i _ b hx hi
    have hk : ∀ k u, (hdE.f hs[i])[k]? = some u → X.cell? ⟨g, off + i * 5 + k, none⟩ = some u := fun k u hu => (hb.cell (p := ⟨g, off + i * 5 + k, none⟩) hg).trans (hcl i _ hx k u hu)
    refine ⟨g, off, hs[i].a, hs[i].n, hs[i].c, rfl, ?_, ?_, ?_, ?_, hk 4 _ rfl, hm⟩
    · rw [← e1]; exact hk 0 _ rfl
    · rw [← e2]; exact hk 1 _ rfl
    · rw [← e3]; exact hk 2 _ rfl
    · rw [← e4]; exact hk 3 _ rfl




end Go.Proofs.Ytmahicpheimnjaa

/- States held against each other, and right states, plainly. -/
namespace Go.Proofs.Ytmahicpheimnjaa

/-- The same boxes. -/
noncomputable def sameS (ps bs : List Bx) : Bool := @decide (ps = bs) (Classical.propDecidable _)
theorem sameS_yes {ps bs : List Bx} (h : ps = bs) : sameS ps bs = true := @decide_eq_true _ (Classical.propDecidable _) h
theorem sameS_no {ps bs : List Bx} (h : ps ≠ bs) : sameS ps bs = false := @decide_eq_false _ (Classical.propDecidable _) h
theorem sameS_len {ps bs : List Bx} (h : ps.length ≠ bs.length) : sameS ps bs = false := sameS_no (fun e => h (by rw [e]))
theorem sameS_part {ps bs : List Bx} {i : Nat} {a b : Bx} (ha : ps[i]? = some a) (hb : bs[i]? = some b) (h : a ≠ b) : sameS ps bs = false := sameS_no (fun e => h (by rw [e, hb] at ha; exact (Option.some.inj ha).symm))
theorem sameS_all {ps bs : List Bx} (hl : ps.length = bs.length) (h : ∀ (i : Nat) (a b : Bx), ps[i]? = some a → bs[i]? = some b → a = b) : sameS ps bs = true :=
  sameS_yes (List.ext_getElem? fun i => by
    by_cases c : i < ps.length
    · have h1 : ps[i]? = some ps[i] := List.getElem?_eq_getElem c
      have h2 : bs[i]? = some (bs[i]'(by omega)) := List.getElem?_eq_getElem (by omega)
      rw [h1, h2, h i _ _ h1 h2]
    · rw [List.getElem?_eq_none (by omega), List.getElem?_eq_none (by omega)])
theorem bx_same {a b : Bx} (h1 : a.valid = b.valid) (h2 : a.user = b.user) (h3 : a.name = b.name) (h4 : a.next = b.next) (hl : a.mails.length = b.mails.length) (h : ∀ (k : Nat) (x y : Ml), a.mails[k]? = some x → b.mails[k]? = some y → x = y) : a = b := by
  obtain ⟨v, u, n, x, m⟩ := a
  obtain ⟨v', u', n', x', m'⟩ := b
  simp only at h1 h2 h3 h4 hl h
  subst h1 h2 h3 h4
  have : m = m' := List.ext_getElem? fun i => by
    by_cases c : i < m.length
    · have e1 : m[i]? = some m[i] := List.getElem?_eq_getElem c
      have e2 : m'[i]? = some (m'[i]'(by omega)) := List.getElem?_eq_getElem (by omega)
      rw [e1, e2, h i _ _ e1 e2]
    · rw [List.getElem?_eq_none (by omega), List.getElem?_eq_none (by omega)]
  rw [this]

end Go.Proofs.Ytmahicpheimnjaa

/- States held against each other: the model's SameState. -/
namespace Go.Proofs.Ytmahicpheimnjaa
open Go.RowKit

theorem Box.five {w : World} {b : Nat} {u0 u1 u2 u3 u4 : Value} {t : TypeId} (h : Box w b #[u0, u1, u2, u3, u4] t) : w.cell? ⟨b, 0, none⟩ = some u0 ∧ w.cell? ⟨b, 1, none⟩ = some u1 ∧ w.cell? ⟨b, 2, none⟩ = some u2 ∧ w.cell? ⟨b, 3, none⟩ = some u3 ∧ w.cell? ⟨b, 4, none⟩ = some u4 :=
  ⟨h.cell 0 _ rfl, h.cell 1 _ rfl, h.cell 2 _ rfl, h.cell 3 _ rfl, h.cell 4 _ rfl⟩
/-- Mails that can be read, ps a loop reads them. -/
def MlRow (w : World) (ad : Option Addr) (l : List Ml) : Prop := ∀ X, Below w.heap.size w X → ∀ i m, l[i]? = some m → ∃ g off, ad = some ⟨g, off, none⟩ ∧ X.cell? ⟨g, off + i * 3, none⟩ = some (.int .i64 m.uid) ∧ X.cell? ⟨g, off + i * 3 + 1, none⟩ = some (.int .i64 m.flags) ∧ X.cell? ⟨g, off + i * 3 + 2, none⟩ = some (.string m.text)
theorem MlRow.get {w : World} {ad : Option Addr} {l : List Ml} (h : MlRow w ad l) {X : World} (hb : Below w.heap.size w X) {i : Nat} {m : Ml} (hi : l[i]? = some m) : ∃ g off, ad = some ⟨g, off, none⟩ ∧ X.cell? ⟨g, off + i * 3, none⟩ = some (.int .i64 m.uid) ∧ X.cell? ⟨g, off + i * 3 + 1, none⟩ = some (.int .i64 m.flags) ∧ X.cell? ⟨g, off + i * 3 + 2, none⟩ = some (.string m.text) := h X hb i m hi
theorem Rows'.mails {w : World} {a : Option Addr} {n c : Nat} {l : List Ml} (h : Rows' mlE w (.slice a n c) l) : n = l.length ∧ MlRow w a l := by
  rcases h.ways with ⟨rfl, a, c, e⟩ | ⟨hne, g, off, c, e, hc, hg, hcl⟩
  · cases e
    exact ⟨rfl, fun X _ i x hi => by cases hi⟩
  · cases e
    exact ⟨rfl, fun X hb i x hi => ⟨g, off, rfl, ml_cells hcl hg hb i x hi⟩⟩

theorem ba_same' (a b : ByteArray) : a.toList = b.toList ↔ a = b := by
  have h := ba_beq a b
  constructor
  · intro e
    rw [beq_iff_eq.2 e] at h
    exact of_decide_eq_true h.symm
  · intro e; rw [e]


end Go.Proofs.Ytmahicpheimnjaa

/- A list that can be read, appended to one of the call's own. -/
namespace Go.Proofs.Ytmahicpheimnjaa
open Go.RowKit

variable {α : Type} {E : Enc α}

theorem run_append_zero {P : Program} {w : World} (base : Nat) (t ty e : TypeId) (i : TypeInfo) (size : Nat) (ht : P.underlying t = some (.slice e)) (hi : P.info? e = some i)
    (v : Value) (n : Nat) (xs : List Value) (hown : w.ownsRow base e size v n xs) (a : Option Addr) (c : Nat) :
    (Builtin.append_ #[t, t] ty #[v, .slice a 0 c]).run P w = .ok v w := by
  rcases hown.2 with ⟨rfl, rfl⟩ | ⟨g, cap, cur, rfl, _, _, hnc, _⟩
  · cases a <;> simp [Builtin.append_, run_underlying ht, sizeOf, typeInfo, hi, Builtin.lenOf, Builtin.firstCells, loadCells, loadCellsFrom]
  · cases a <;> simp [Builtin.append_, run_underlying ht, sizeOf, typeInfo, hi, Builtin.lenOf, Builtin.firstCells, hnc, storeCells, loadCells, loadCellsFrom]

theorem run_append_rd {w : World} (ty : TypeId) (B : Nat) (v : Value) (l : List α) (hb : RBuf E B w w v l) (vx : Value) (m : List α) (hx : Rows' E w vx m)
    (hlen : (l.length + m.length) * (E.bytes + 1) ≤ 140737488355328) :
    ∃ v' w', (Builtin.append_ #[E.sty, E.sty] ty #[v, vx]).run Try.prog w = .ok v' w' ∧ RBuf E B w' w' v' (l ++ m) ∧ w.grownBy w' v.ownBlock ∧ (v'.ownBlock = v.ownBlock ∨ v'.ownBlock = some w.heap.size) := by
  obtain ⟨i0, hi, hz0, hz1, hz2⟩ := info_parts E.info
  have e0 : (l.length + m.length) * (E.bytes + 1) = (l.length + m.length) * E.bytes + (l.length + m.length) := Nat.mul_succ _ _
  rcases hx with ⟨rfl, a, c, rfl⟩ | ⟨g, off, cap, rfl, hc, hg, hcl⟩
  · exact ⟨v, w, run_append_zero (P := Try.prog) B E.sty ty E.ty i0 E.sz E.und hi v l.length (E.row l) hb.own a c, by simpa using hb, World.grownBy.refl _ _, .inl rfl⟩
  · obtain ⟨v', w', h1, h2, h3, _, h5⟩ := run_append_own_at (P := Try.prog) w B E.sty ty E.ty i0 E.zero E.sz E.bytes E.und hi hz0 hz1 hz2 E.zc E.pos v l.length (E.row l) hb.own ⟨g, off, none⟩ m.length cap (E.row m) (E.row_length m)
      (fun j u hu => by
        have hjl : j < m.length * E.sz := by have := (List.getElem?_eq_some_iff.1 hu).1; rwa [E.row_length] at this
        have hp := E.pos
        have hq : j / E.sz < m.length := Nat.div_lt_of_lt_mul (by rw [Nat.mul_comm]; exact hjl)
        have hr : j % E.sz < E.sz := Nat.mod_lt _ hp
        have hj : j / E.sz * E.sz + j % E.sz = j := Nat.div_add_mod' j E.sz
        have hgq : m[j / E.sz]? = some m[j / E.sz] := List.getElem?_eq_getElem hq
        have h6 := E.row_at m (j / E.sz) _ hgq (j % E.sz) hr
        rw [hj, hu] at h6
        have h7 := hcl (j / E.sz) _ hgq (j % E.sz) u h6.symm
        rw [Nat.add_assoc, hj] at h7
        rw [Addr.add_lit]
        exact h7) (E.row_one' m) (by unfold maxLen; omega) (by omega) hb.le
    refine ⟨v', w', h1, ⟨?_, Below.refl _ _, Nat.le_trans hb.le h3.size⟩, h3, h5⟩
    rw [List.length_append, E.row_append]
    exact h2

theorem wp_append_rd {w : World} {o : Oper} {a : Act} {K : Act → World → Prop} {Q : Exit → Act → World → Prop} (s x : Operand) (E : Enc α)
    (ho : o.op = .call { callee := .builtin .append, args := #[s, x], argTypes := #[E.sty, E.sty] })
    (B : Nat) (v : Value) (l : List α) (hs : a.eval s = v) (hb : RBuf E B w w v l) (vx : Value) (m : List α) (hxv : a.eval x = vx) (hx : Rows' E w vx m)
    (hlen : (l.length + m.length) * (E.bytes + 1) ≤ 140737488355328)
    (h : ∀ v' w', RBuf E B w' w' v' (l ++ m) → w.grownBy w' v.ownBlock → (v'.ownBlock = v.ownBlock ∨ v'.ownBlock = some w.heap.size) → K (a.put o.dst v') w') : o.wp Try.prog a w K Q := by
  obtain ⟨v', w', hr, h2, h3, h4⟩ := run_append_rd o.type B v l hb vx m hx hlen
  unfold Oper.wp execOp
  simp only [ho, resolve, invoke, builtin, Sem.run_bind, Sem.run_pure, Result.andThen_ok, List.map_toArray, List.map_cons, List.map_nil, hs, hxv, hr]
  exact h v' w' h2 h3 h4

theorem wpList_append_rd {w : World} {ops : Array Oper} {rest : List Oper} {o : Oper} {a : Act} {Q : Exit → Act → World → Prop} (hgd : o.guard = none) (s x : Operand) (E : Enc α)
    (ho : o.op = .call { callee := .builtin .append, args := #[s, x], argTypes := #[E.sty, E.sty] })
    (B : Nat) (v : Value) (l : List α) (hs : a.eval s = v) (hb : RBuf E B w w v l) (vx : Value) (m : List α) (hxv : a.eval x = vx) (hx : Rows' E w vx m)
    (hlen : (l.length + m.length) * (E.bytes + 1) ≤ 140737488355328)
    (h : ∀ v' w', RBuf E B w' w' v' (l ++ m) → w.grownBy w' v.ownBlock → (v'.ownBlock = v.ownBlock ∨ v'.ownBlock = some w.heap.size) → wpList Try.prog ops Q rest (a.put o.dst v') w') : wpList Try.prog ops Q (o :: rest) a w :=
  wpList_plain hgd fun _ hK => wp_append_rd s x E ho B v l hs hb vx m hxv hx hlen fun v' w' h2 h3 h4 => hK _ _ (h v' w' h2 h3 h4)

end Go.Proofs.Ytmahicpheimnjaa

/- What records tell: the model's BoxOf. -/
namespace Go.Proofs.Ytmahicpheimnjaa
open Go.RowKit

/-- A store elsewhere leaves a list of the call's own. -/
theorem RBuf.aside {α : Type} {E : Enc α} {B : Nat} {w : World} {v : Value} {l : List α} (h : RBuf E B w w v l) (g i : Nat) (u : Value) (hg : g < B) : RBuf E B (w.setCell ⟨g, i, none⟩ u) (w.setCell ⟨g, i, none⟩ u) v l := by
  refine h.shift (stored_grown w g i u) ?_
  cases hb : v.ownBlock with
  | none => exact .inl rfl
  | some k => exact .inr (fun e => by have := (h.own.lt k hb).1; have := Option.some.inj e; omega)
/-- Five cells stored. -/
def set5 (w : World) (b : Nat) (v0 v1 v2 v3 v4 : Value) : World := ((((w.setCell ⟨b, 0, none⟩ v0).setCell ⟨b, 1, none⟩ v1).setCell ⟨b, 2, none⟩ v2).setCell ⟨b, 3, none⟩ v3).setCell ⟨b, 4, none⟩ v4

set_option maxRecDepth 100000 in
set_option maxHeartbeats 4000000 in
theorem specBox_any (b : Bx) (a1 : Option Addr) (c1 : Nat) (w : World) (h : Rows' mlE w (.slice a1 b.mails.length c1) b.mails) (hl : b.mails.length ≤ 1048576) :
    Calls Try.prog 36 #[.agg #[.int .i64 b.valid, .string b.user, .string b.name, .int .i64 b.next, .slice a1 b.mails.length c1]] w fun e w' => ∃ v, e = .returned (.agg #[.int .i64 b.valid, .string b.user, .string b.name, .int .i64 b.next, v]) ∧ RBuf mlE w.heap.size w' w' v b.mails ∧ Below w.heap.size w w' := by
  have b1 : Below w.heap.size w ((w.alloc (.cells #[.int .i64 b.valid, .string b.user, .string b.name, .int .i64 b.next, .slice a1 b.mails.length c1] 32)).alloc (.cells #[.int .i64 0, .string ⟨#[]⟩, .string ⟨#[]⟩, .int .i64 0, .slice none 0 0] 32)) := ((Below.refl _ _).alloc (Nat.le_refl _) _).alloc (by simp) _
  have X1 := (Box.new w #[.int .i64 b.valid, .string b.user, .string b.name, .int .i64 b.next, .slice a1 b.mails.length c1] 32).later (belNew _ (.cells #[.int .i64 0, .string ⟨#[]⟩, .string ⟨#[]⟩, .int .i64 0, .slice none 0 0] 32))
  have hsz : ((w.alloc (.cells #[.int .i64 b.valid, .string b.user, .string b.name, .int .i64 b.next, .slice a1 b.mails.length c1] 32)).alloc (.cells #[.int .i64 0, .string ⟨#[]⟩, .string ⟨#[]⟩, .int .i64 0, .slice none 0 0] 32)).heap.size = w.heap.size + 2 := by simp
  have X2 : Box ((w.alloc (.cells #[.int .i64 b.valid, .string b.user, .string b.name, .int .i64 b.next, .slice a1 b.mails.length c1] 32)).alloc (.cells #[.int .i64 0, .string ⟨#[]⟩, .string ⟨#[]⟩, .int .i64 0, .slice none 0 0] 32)) (w.heap.size + 1) #[.int .i64 0, .string ⟨#[]⟩, .string ⟨#[]⟩, .int .i64 0, .slice none 0 0] 32 := by
    have := Box.new (w.alloc (.cells #[.int .i64 b.valid, .string b.user, .string b.name, .int .i64 b.next, .slice a1 b.mails.length c1] 32)) #[.int .i64 0, .string ⟨#[]⟩, .string ⟨#[]⟩, .int .i64 0, .slice none 0 0] 32
    rwa [show (w.alloc (.cells #[.int .i64 b.valid, .string b.user, .string b.name, .int .i64 b.next, .slice a1 b.mails.length c1] 32)).heap.size = w.heap.size + 1 from by simp] at this
  have R1 := h.later b1
  go_enter Try.func36, Try.ntmps36
  go_upto_region 1 with fail
  generalize (w.alloc (.cells #[.int .i64 b.valid, .string b.user, .string b.name, .int .i64 b.next, .slice a1 b.mails.length c1] 32)).alloc (.cells #[.int .i64 0, .string ⟨#[]⟩, .string ⟨#[]⟩, .int .i64 0, .slice none 0 0] 32) = w1 at b1 X1 X2 hsz R1 ⊢
  have BW := Lib.hid b1
  have SZ := Lib.hid hsz
  have I0 := (RBuf.fresh mlE w1).here
  have b2 := belNew w1 (.cells #[] 34)
  have H2 := Lib.hid (X2.later b2)
  have H1 := Lib.hid (X1.later b2)
  have x4 : (w1.alloc (.cells #[] 34)).cell? ⟨w.heap.size, 4, none⟩ = some (.slice a1 b.mails.length c1) := H1.out.cell 4 _ rfl
  have HR := Lib.hid (R1.later b2)
  have HI := Lib.hid I0
  clear h b1 X1 X2 hsz R1 I0 b2
  go_wp2_with (at_builtin; refine wpList_append_rd rfl _ _ mlE rfl w1.heap.size _ [] rfl HI.out _ b.mails rfl HR.out ?hl ?_)
  case hl => simp [mlE]; omega
  intro v' w2 hv gv _
  obtain ⟨pv, cv, rfl⟩ := hv.form
  have gv : World.grownBy _ w2 (some w1.heap.size) := gv
  have hlt : w.heap.size < w1.heap.size := by have := SZ.out; omega
  have hlt2 : w.heap.size + 1 < w1.heap.size := by have := SZ.out; omega
  have K1 : Box w2 w.heap.size #[.int .i64 b.valid, .string b.user, .string b.name, .int .i64 b.next, .slice a1 b.mails.length c1] 32 := (gv.block _ H1.out.lt (fun e => by have := Option.some.inj e; omega)).trans H1.out
  have K2 : Box w2 (w.heap.size + 1) #[.int .i64 0, .string ⟨#[]⟩, .string ⟨#[]⟩, .int .i64 0, .slice none 0 0] 32 := (gv.block _ H2.out.lt (fun e => by have := Option.some.inj e; omega)).trans H2.out
  have bG : Below w.heap.size w w2 := (BW.out.alloc BW.out.size _).grown gv (by simp; omega) (fun k hk => by have := Option.some.inj hk; omega)
  have L1 : Box (w2.setCell ⟨w.heap.size, 4, none⟩ (.slice pv b.mails.length cv)) w.heap.size #[.int .i64 b.valid, .string b.user, .string b.name, .int .i64 b.next, .slice pv b.mails.length cv] 32 := K1.set 4 _
  have L2 : Box (w2.setCell ⟨w.heap.size, 4, none⟩ (.slice pv b.mails.length cv)) (w.heap.size + 1) #[.int .i64 0, .string ⟨#[]⟩, .string ⟨#[]⟩, .int .i64 0, .slice none 0 0] 32 := K2.other (by omega) 4 _
  have hv2 := hv.aside w.heap.size 4 (.slice pv b.mails.length cv) hlt
  have bS : Below w.heap.size w (w2.setCell ⟨w.heap.size, 4, none⟩ (.slice pv b.mails.length cv)) := bG.setCell (p := ⟨w.heap.size, 4, none⟩) (Nat.le_refl _) _
  have k4 : w2.cell? ⟨w.heap.size, 4, none⟩ = some (.slice a1 b.mails.length c1) := K1.cell 4 _ rfl
  have f4 : w2.frozen? ⟨w.heap.size, 4, none⟩ = false := K1.loose 4
  have HV := Lib.hid hv2
  have HL := Lib.hid L2
  have HLT := Lib.hid hlt2
  have HBS := Lib.hid bS
  clear K1 K2 bG hv hv2 gv H1 H2 HR HI BW SZ x4 hlt hlt2 L2 bS
  go_upto_region 2 with fail
  generalize w2.setCell ⟨w.heap.size, 4, none⟩ (.slice pv b.mails.length cv) = w3 at L1 HL HBS HV ⊢
  clear f4 k4
  obtain ⟨y0, y1, y2, y3, y4⟩ := L1.five
  obtain ⟨u0, u1, u2, u3, u4⟩ := HL.out.five
  have f0 := HL.out.loose 0
  have f1 := HL.out.loose 1
  have f2 := HL.out.loose 2
  have f3 := HL.out.loose 3
  have f4 := HL.out.loose 4
  have L5 : Box (set5 w3 (w.heap.size + 1) (.int .i64 b.valid) (.string b.user) (.string b.name) (.int .i64 b.next) (.slice pv b.mails.length cv)) (w.heap.size + 1) #[.int .i64 b.valid, .string b.user, .string b.name, .int .i64 b.next, .slice pv b.mails.length cv] 32 := ((((HL.out.set 0 _).set 1 _).set 2 _).set 3 _).set 4 _
  unfold set5 at L5
  obtain ⟨z0, z1, z2, z3, z4⟩ := L5.five
  clear L1 L5
  go_wp2
  refine bodyPost_ret (v := .agg #[.int .i64 b.valid, .string b.user, .string b.name, .int .i64 b.next, .slice pv b.mails.length cv]) (by simp [results, Try.results36, go_sem, z0, z1, z2, z3, z4]) rfl ⟨_, rfl, ?_, ?_⟩
  · exact (((((HV.out.aside _ 0 _ HLT.out).aside _ 1 _ HLT.out).aside _ 2 _ HLT.out).aside _ 3 _ HLT.out).aside _ 4 _ HLT.out).lower (by have := HLT.out; omega)
  · exact ((((HBS.out.setCell (p := ⟨w.heap.size + 1, 0, none⟩) (by simp) _).setCell (p := ⟨w.heap.size + 1, 1, none⟩) (by simp) _).setCell (p := ⟨w.heap.size + 1, 2, none⟩) (by simp) _).setCell (p := ⟨w.heap.size + 1, 3, none⟩) (by simp) _).setCell (p := ⟨w.heap.size + 1, 4, none⟩) (by simp) _

end Go.Proofs.Ytmahicpheimnjaa

/- What records tell: the model's BoxOf. -/
namespace Go.Proofs.Ytmahicpheimnjaa
open Go.RowKit

/-- The box of a user and a name. -/
noncomputable def boxOf (ps : List Bx) (u nm : ByteArray) : Option Bx := ps.find? (fun b => @decide (b.user = u ∧ b.name = nm) (Classical.propDecidable _))
theorem boxOf_at {ps : List Bx} {u nm : ByteArray} {i : Nat} {x : Bx} (h : ps[i]? = some x) (hx : x.user = u ∧ x.name = nm) (hU : ∀ (j : Nat) (y : Bx), ps[j]? = some y → j < i → ¬ (y.user = u ∧ y.name = nm)) : boxOf ps u nm = some x := by
  obtain ⟨hi, rfl⟩ := List.getElem?_eq_some_iff.1 h
  refine List.find?_eq_some_iff_getElem.2 ⟨@decide_eq_true _ (Classical.propDecidable _) hx, i, hi, rfl, fun j hj => ?_⟩
  rw [@decide_eq_false _ (Classical.propDecidable _) (hU j _ (List.getElem?_eq_getElem (by omega)) hj)]
  rfl
theorem boxOf_none {ps : List Bx} {u nm : ByteArray} (hU : ∀ (j : Nat) (y : Bx), ps[j]? = some y → ¬ (y.user = u ∧ y.name = nm)) : boxOf ps u nm = none := by
  refine List.find?_eq_none.2 fun x hx => ?_
  obtain ⟨j, hj⟩ := List.mem_iff_getElem?.1 hx
  rw [@decide_eq_false _ (Classical.propDecidable _) (hU j x hj)]
  exact Bool.false_ne_true

set_option maxRecDepth 100000 in
set_option maxHeartbeats 2000000 in
theorem specBoxOf_any (ps : List Bx) (va : Value) (u nm : ByteArray) (w : World) (ha : BRd w va ps) (hla : ps.length ≤ 1048576) (hma : ∀ b ∈ ps, b.mails.length ≤ 1048576) :
    Calls Try.prog 10 #[.agg #[va], .string u, .string nm] w fun e w' => ((boxOf ps u nm = none ∧ e = .returned (.tuple #[.agg #[.int .i64 0, .string ⟨#[]⟩, .string ⟨#[]⟩, .int .i64 0, .slice none 0 0], .bool false])) ∨ ∃ (x : Bx) (v : Value), boxOf ps u nm = some x ∧ e = .returned (.tuple #[.agg #[.int .i64 x.valid, .string x.user, .string x.name, .int .i64 x.next, v], .bool true]) ∧ RBuf mlE w.heap.size w' w' v x.mails) ∧ Below w.heap.size w w' := by
  obtain ⟨ad, cap, rfl, hrowa⟩ := ha.boxes
  have HA := Lib.hid hrowa
  have HMA := Lib.hid hma
  clear ha hrowa hma
  obtain ⟨n, hn⟩ : ∃ n, ps.length = n := ⟨_, rfl⟩
  have HN := Lib.hid hn
  rw [hn] at hla ⊢
  clear hn
  obtain ⟨D, hD⟩ : ∃ D, boxOf ps u nm = D := ⟨_, rfl⟩
  have HD := Lib.hid hD
  rw [hD]
  clear hD
  have b1 : Below w.heap.size w ((w.alloc (.cells #[.slice ad n cap] 28)).alloc (.cells #[.int .i64 0, .string ⟨#[]⟩, .string ⟨#[]⟩, .int .i64 0, .slice none 0 0] 32)) := ((Below.refl _ _).alloc (Nat.le_refl _) _).alloc (by simp) _
  have X2 := (Box.new w #[.slice ad n cap] 28).later (belNew _ (.cells #[.int .i64 0, .string ⟨#[]⟩, .string ⟨#[]⟩, .int .i64 0, .slice none 0 0] 32))
  have X3 : Box ((w.alloc (.cells #[.slice ad n cap] 28)).alloc (.cells #[.int .i64 0, .string ⟨#[]⟩, .string ⟨#[]⟩, .int .i64 0, .slice none 0 0] 32)) (w.heap.size + 1) #[.int .i64 0, .string ⟨#[]⟩, .string ⟨#[]⟩, .int .i64 0, .slice none 0 0] 32 := by
    have := Box.new (w.alloc (.cells #[.slice ad n cap] 28)) #[.int .i64 0, .string ⟨#[]⟩, .string ⟨#[]⟩, .int .i64 0, .slice none 0 0] 32
    rwa [show (w.alloc (.cells #[.slice ad n cap] 28)).heap.size = w.heap.size + 1 from by simp] at this
  go_enter Try.func10, Try.ntmps10
  go_upto_region 1 with fail
  generalize (w.alloc (.cells #[.slice ad n cap] 28)).alloc (.cells #[.int .i64 0, .string ⟨#[]⟩, .string ⟨#[]⟩, .int .i64 0, .slice none 0 0] 32) = w1 at b1 X2 X3 ⊢
  have BW := Lib.hid b1
  have H2 := Lib.hid X2
  have H3 := Lib.hid X3
  have Y2 : w1.cell? ⟨w.heap.size, 0, none⟩ = some (.slice ad n cap) := H2.out.cell 0 _ rfl
  clear b1 X2 X3
  go_wp2
  go_loop [8] (fun iv => ∃ i : Nat, i ≤ n ∧ iv = .int .i64 (i : Int) ∧ (∀ (j : Nat) (y : Bx), ps[j]? = some y → j < i → ¬ (y.user = u ∧ y.name = nm))) (fun iv => n - (intOf iv).toNat)
  case atStart => exact ⟨0, by omega, rfl, fun j y _ hj => by omega⟩
  case round =>
    obtain ⟨i, hi, rfl, hU⟩ := hrel
    have HU := Lib.hid hU
    clear hU
    by_cases hlt : i < n
    · obtain ⟨x, hgx⟩ : ∃ x, ps[i]? = some x := ⟨_, List.getElem?_eq_getElem (by rw [HN.out]; exact hlt)⟩
      have hmx := HMA.out x (List.mem_of_getElem? hgx)
      obtain ⟨gp, op, a1, n1, c1, rfl, p0, p1, p2, p3, p4, ra⟩ := HA.out _ BW.out i _ hgx
      obtain ⟨hn1, _⟩ := ra.mails
      subst hn1
      have HRA := Lib.hid (ra.later BW.out)
      have HX := Lib.hid hgx
      have hi0 : (0 : Int) ≤ (i : Int) := by omega
      have hi1 : (i : Int) < (n : Int) := by omega
      clear hgx ra
      have HSK : Hid (∀ (h : ¬ (x.user = u ∧ x.name = nm)), ∀ (j : Nat) (y : Bx), ps[j]? = some y → j < i + 1 → ¬ (y.user = u ∧ y.name = nm)) := by
        intro h j y hj hji
        by_cases c : j = i
        · subst c; have := HX.out; rw [hj] at this; cases this; exact h
        · exact HU.out j y hj (by omega)
      by_cases hu : x.user = u
      · subst hu
        by_cases hm : x.name = nm
        · subst hm
          have HE : Hid (D = some x) := by rw [← HD.out]; exact boxOf_at HX.out ⟨rfl, rfl⟩ HU.out
          clear HSK
          go_wp2_with (go_at_call 36; refine (specBox_any x a1 c1 w1 HRA.out hmx).mono ?_; rintro e w2 ⟨v, rfl, hv, k2⟩; obtain ⟨pv, cv, rfl⟩ := hv.form; have HV := Lib.hid hv; have HK2 := Lib.hid k2; have HL := Lib.hid (H3.out.later k2); obtain ⟨u0, u1, u2, u3, u4⟩ := HL.out.five; have f0 := HL.out.loose 0; have f1 := HL.out.loose 1; have f2 := HL.out.loose 2; have f3 := HL.out.loose 3; have f4 := HL.out.loose 4; have L5 : Box (set5 w2 (w.heap.size + 1) (.int .i64 x.valid) (.string x.user) (.string x.name) (.int .i64 x.next) (.slice pv x.mails.length cv)) (w.heap.size + 1) #[.int .i64 x.valid, .string x.user, .string x.name, .int .i64 x.next, .slice pv x.mails.length cv] 32 := ((((HL.out.set 0 _).set 1 _).set 2 _).set 3 _).set 4 _; unfold set5 at L5; obtain ⟨z0, z1, z2, z3, z4⟩ := L5.five; clear L5 hv k2)
          refine bodyPost_ret (v := .tuple #[.agg #[.int .i64 x.valid, .string x.user, .string x.name, .int .i64 x.next, .slice pv x.mails.length cv], .bool true]) (by simp [results, Try.results10, go_sem, z0, z1, z2, z3, z4]) rfl ⟨.inr ⟨x, _, HE.out, rfl, ?_⟩, ?_⟩
          · have hq := H3.out.lt
            exact (((((HV.out.aside _ 0 _ hq).aside _ 1 _ hq).aside _ 2 _ hq).aside _ 3 _ hq).aside _ 4 _ hq).lower BW.out.size
          · exact (((((BW.out.trans (HK2.out.mono BW.out.size)).setCell (p := ⟨w.heap.size + 1, 0, none⟩) (by simp) _).setCell (p := ⟨w.heap.size + 1, 1, none⟩) (by simp) _).setCell (p := ⟨w.heap.size + 1, 2, none⟩) (by simp) _).setCell (p := ⟨w.heap.size + 1, 3, none⟩) (by simp) _).setCell (p := ⟨w.heap.size + 1, 4, none⟩) (by simp) _
        · have hm' : (x.name.toList == nm.toList) = false := by rw [beq_eq_false_iff_ne]; exact fun h => hm ((ba_same' _ _).1 h)
          have HK := Lib.hid (HSK.out (fun h => hm h.2))
          clear HSK
          go_wp2
          go_round
          case rel => exact ⟨i + 1, by omega, by go_num, HK.out⟩
          case measure => simp [intOf]; omega
      · have hu' : (x.user.toList == u.toList) = false := by rw [beq_eq_false_iff_ne]; exact fun h => hu ((ba_same' _ _).1 h)
        have HK := Lib.hid (HSK.out (fun h => hu h.1))
        clear HSK
        go_wp2
        go_round
        case rel => exact ⟨i + 1, by omega, by go_num, HK.out⟩
        case measure => simp [intOf]; omega
    · have HE : Hid (D = none) := by rw [← HD.out]; exact boxOf_none (fun j y hj => HU.out j y hj (by have := (List.getElem?_eq_some_iff.1 hj).1; have := HN.out; omega))
      obtain ⟨u0, u1, u2, u3, u4⟩ := H3.out.five
      have f0 := H3.out.loose 0
      have f1 := H3.out.loose 1
      have f2 := H3.out.loose 2
      have f3 := H3.out.loose 3
      have f4 := H3.out.loose 4
      have L5 : Box (set5 w1 (w.heap.size + 1) (.int .i64 0) (.string ⟨#[]⟩) (.string ⟨#[]⟩) (.int .i64 0) (.slice none 0 0)) (w.heap.size + 1) #[.int .i64 0, .string ⟨#[]⟩, .string ⟨#[]⟩, .int .i64 0, .slice none 0 0] 32 := ((((H3.out.set 0 _).set 1 _).set 2 _).set 3 _).set 4 _
      unfold set5 at L5
      obtain ⟨z0, z1, z2, z3, z4⟩ := L5.five
      clear L5
      go_wp2
      refine bodyPost_ret (v := .tuple #[.agg #[.int .i64 0, .string ⟨#[]⟩, .string ⟨#[]⟩, .int .i64 0, .slice none 0 0], .bool false]) (by simp [results, Try.results10, go_sem, z0, z1, z2, z3, z4]) rfl ⟨.inl ⟨HE.out, rfl⟩, ?_⟩
      exact ((((BW.out.setCell (p := ⟨w.heap.size + 1, 0, none⟩) (by simp) _).setCell (p := ⟨w.heap.size + 1, 1, none⟩) (by simp) _).setCell (p := ⟨w.heap.size + 1, 2, none⟩) (by simp) _).setCell (p := ⟨w.heap.size + 1, 3, none⟩) (by simp) _).setCell (p := ⟨w.heap.size + 1, 4, none⟩) (by simp) _

end Go.Proofs.Ytmahicpheimnjaa

/- What BoxOf of either side hands back, in one word: a box, and whether there is one. -/
namespace Go.Proofs.Ytmahicpheimnjaa
open Go.RowKit

noncomputable def bxO (ps : List Bx) (u nm : ByteArray) : Bx := (boxOf ps u nm).getD ⟨0, ⟨#[]⟩, ⟨#[]⟩, 0, []⟩
noncomputable def bxY (ps : List Bx) (u nm : ByteArray) : Bool := (boxOf ps u nm).isSome

theorem box_ans {ps : List Bx} {u nm : ByteArray} {w w' : World} {e : Ending}
    (h : ((boxOf ps u nm = none ∧ e = .returned (.tuple #[.agg #[.int .i64 0, .string ⟨#[]⟩, .string ⟨#[]⟩, .int .i64 0, .slice none 0 0], .bool false])) ∨ ∃ (x : Bx) (v : Value), boxOf ps u nm = some x ∧ e = .returned (.tuple #[.agg #[.int .i64 x.valid, .string x.user, .string x.name, .int .i64 x.next, v], .bool true]) ∧ RBuf mlE w.heap.size w' w' v x.mails) ∧ Below w.heap.size w w') :
    ∃ (a : Option Addr) (c : Nat), e = .returned (.tuple #[.agg #[.int .i64 (bxO ps u nm).valid, .string (bxO ps u nm).user, .string (bxO ps u nm).name, .int .i64 (bxO ps u nm).next, .slice a (bxO ps u nm).mails.length c], .bool (bxY ps u nm)]) ∧ RBuf mlE w.heap.size w' w' (.slice a (bxO ps u nm).mails.length c) (bxO ps u nm).mails ∧ Below w.heap.size w w' := by
  obtain ⟨h, hb⟩ := h
  rcases h with ⟨hn, rfl⟩ | ⟨x, v, hs, rfl, hr⟩
  · have e1 : bxO ps u nm = ⟨0, ⟨#[]⟩, ⟨#[]⟩, 0, []⟩ := by unfold bxO; rw [hn]; rfl
    have e2 : bxY ps u nm = false := by unfold bxY; rw [hn]; rfl
    rw [e1, e2]
    exact ⟨none, 0, rfl, (RBuf.nil mlE w').lower hb.size, hb⟩
  · have e1 : bxO ps u nm = x := by unfold bxO; rw [hs]; rfl
    have e2 : bxY ps u nm = true := by unfold bxY; rw [hs]; rfl
    rw [e1, e2]
    obtain ⟨a, c, rfl⟩ := hr.form
    exact ⟨a, c, rfl, hr, hb⟩

/-- It is no longer than the longest that is there. -/
theorem bxO_small {ps : List Bx} {u nm : ByteArray} {N : Nat} (h : ∀ b ∈ ps, b.mails.length ≤ N) : (bxO ps u nm).mails.length ≤ N := by
  unfold bxO
  cases hb : boxOf ps u nm with
  | none => simp
  | some x => exact h x (List.mem_of_find?_eq_some hb)

end Go.Proofs.Ytmahicpheimnjaa

/- What drawn records tell, plainly: what is asked of each box that is told. -/
namespace Go.Proofs.Ytmahicpheimnjaa
open Go.RowKit

theorem stateL_ok {l : List Itm} (h : itemsOk l) : stateL l = tellAll l := if_pos h

theorem told_box {l : List Itm} (h : itemsOk l) {b : Bx} (hb : b ∈ stateL l) :
    (∀ m ∈ b.mails, m.uid < b.next ∧ ∀ x ∈ l, ¬ (x.2.kind = 5 ∧ x.2.valid = b.valid ∧ x.2.uid = m.uid)) ∧
    (∀ (k : Nat) (p m : Ml), b.mails[k]? = some p → b.mails[k + 1]? = some m → p.uid < m.uid) ∧
    ∀ x ∈ l, x.2.valid = b.valid → x.2.kind ≠ 2 ∧ (x.2.kind = 3 → x.2.uid < b.next) := by
  rw [stateL_ok h] at hb
  have hf := box_form hb
  have hm : b.mails = mailsOf b.valid l := congrArg Bx.mails hf
  have hn : b.next = nextOf b.valid l := congrArg Bx.next hf
  refine ⟨fun m hm' => ?_, fun k p m hp hq => ?_, fun x hx hv => ⟨box_kept hb x hx (h.1 x hx).2 hv, fun hk => ?_⟩⟩
  · rw [hm] at hm'
    rw [hn]
    exact mails_told hm'
  · rw [hm] at hp hq
    obtain ⟨h1, e1⟩ := List.getElem?_eq_some_iff.1 hp
    obtain ⟨h2, e2⟩ := List.getElem?_eq_some_iff.1 hq
    have := List.pairwise_iff_getElem.1 (mails_up b.valid l) k (k + 1) h1 h2 (by omega)
    rw [e1, e2] at this
    exact this
  · rw [hn]
    exact add_below hx hk hv

theorem asc_len : ∀ (l : List Int) (lo hi : Int), l.Pairwise (· < ·) → (∀ x ∈ l, lo ≤ x ∧ x ≤ hi) → l = [] ∨ (l.length : Int) ≤ hi - lo + 1
  | [], _, _, _, _ => .inl rfl
  | x :: t, lo, hi, hp, hr => by
    right
    obtain ⟨h1, h2⟩ := List.pairwise_cons.1 hp
    have hx := hr x (List.mem_cons_self ..)
    rcases asc_len t (x + 1) hi h2 (fun y hy => ⟨by have := h1 y hy; omega, (hr y (List.mem_cons_of_mem _ hy)).2⟩) with rfl | h
    · simp; omega
    · simp only [List.length_cons]; omega

/-- What drawn items tell: at most three boxes, short texts. -/
theorem told_few {l : List Itm} (h : ItsD l) : (stateL l).length ≤ 3 ∧ (stateL l).Pairwise (fun x y => ¬ y.valid < x.valid) := by
  rw [stateL_ok h.1]
  have hu := boxes_up l
  refine ⟨?_, hu.imp (fun h => by omega)⟩
  have h1 : ((tellAll l).map (·.valid)).Pairwise (· < ·) := List.pairwise_map.2 hu
  have h2 : ∀ x ∈ (tellAll l).map (·.valid), (1 : Int) ≤ x ∧ x ≤ 3 := fun x hx => by
    rw [boxes_valids, mem_valids] at hx
    obtain ⟨⟨y, hy, _, rfl⟩, _⟩ := hx
    have h3 := (h.2.2.2 y hy).2
    have h4 := (h.1.1 y hy).2
    exact ⟨h4.2.1.1, h3⟩
  rcases asc_len _ 1 3 h1 h2 with he | hl
  · have : (tellAll l).length = 0 := by rw [← List.length_map (f := (·.valid)), he]; rfl
    omega
  · rw [List.length_map] at hl
    omega

theorem bestO_mem {k : Itm → Int} {p : Itm → Bool} {l : List Itm} {x : Itm} (h : bestO k p l = some x) : x ∈ l := by
  have := bestO_I k p l
  rw [h] at this
  exact this.1

theorem told_texts {l : List Itm} (h : ItsD l) : ∀ b ∈ stateL l, b.user.size ≤ 200 ∧ b.name.size ≤ 200 ∧ ∀ m ∈ b.mails, m.text.size ≤ 200 := fun b hb => by
  rw [stateL_ok h.1] at hb
  have hf := box_form hb
  have hu : b.user = (tellO b.valid l).elim emp (fun y => y.2.user) := congrArg Bx.user hf
  have hn : b.name = (tellO b.valid l).elim emp (fun y => y.2.name) := congrArg Bx.name hf
  have hm : b.mails = mailsOf b.valid l := congrArg Bx.mails hf
  refine ⟨?_, ?_, fun m hm' => ?_⟩
  · rw [hu]
    cases ht : tellO b.valid l with
    | none => exact Nat.zero_le _
    | some y => exact (h.2.2.1 y (bestO_mem ht)).1
  · rw [hn]
    cases ht : tellO b.valid l with
    | none => exact Nat.zero_le _
    | some y => exact (h.2.2.1 y (bestO_mem ht)).2.1
  · rw [hm] at hm'
    obtain ⟨u, _, rfl⟩ := List.mem_map.1 hm'
    show ((bestR 3 b.valid u l).elim emp (fun y => y.2.text)).size ≤ 200
    cases ht : bestR 3 b.valid u l with
    | none => exact Nat.zero_le _
    | some y => exact (h.2.2.1 y (bestO_mem ht)).2.2

/-- The box that is found has the user and the name that were asked for. -/
theorem bxY_yes {ps : List Bx} {u nm : ByteArray} (h : bxY ps u nm = true) : (bxO ps u nm).user = u ∧ (bxO ps u nm).name = nm := by
  unfold bxY at h
  unfold bxO
  cases hb : boxOf ps u nm with
  | none => rw [hb] at h; cases h
  | some x =>
    have := List.find?_some hb
    exact @of_decide_eq_true _ (Classical.propDecidable _) this

end Go.Proofs.Ytmahicpheimnjaa

/- What is drawn for the chapter on records: any record, and the draws of the chapter. -/
namespace Go.Proofs.Ytmahicpheimnjaa
open Go.RowKit





end Go.Proofs.Ytmahicpheimnjaa

/- How bools lie in memory. -/
namespace Go.Proofs.Ytmahicpheimnjaa
open Go.RowKit


end Go.Proofs.Ytmahicpheimnjaa

/- What is drawn for the chapters on what records tell and on what is needed: any items, and which of them go. -/
namespace Go.Proofs.Ytmahicpheimnjaa
open Go.RowKit

def Rc.tame (r : Rc) : Prop := r.slim ∧ 0 ≤ r.valid ∧ r.valid ≤ 10000
theorem Rc.ok_tame {r : Rc} (h : r.ok ∧ r.slim) : r.tame := ⟨h.2, by have := h.1.2.1; omega, by have := h.1.2.1; omega⟩


def sliceLen (v : Value) : Nat := match v with
  | .slice _ n _ => n
  | _ => 0
/-- Items of whatever make that are drawn. -/
def ItsA (n : Nat) (l : List Itm) : Prop := l.length ≤ n ∧ ∀ x ∈ l, x.2.tame
theorem ItsD.any {l : List Itm} (h : ItsD l) : ItsA 23 l := ⟨h.2.1, fun x hx => ⟨h.2.2.1 x hx, by have := (h.1.1 x hx).2.2.1; omega, by have := (h.1.1 x hx).2.2.1; omega⟩⟩
theorem ItsA.push {n : Nat} {l : List Itm} (h : ItsA n l) {x : Itm} (hx : x.2.tame) : ItsA (n + 1) (l ++ [x]) := ⟨by have := h.1; simp; omega, fun y hy => by
  rcases List.mem_append.1 hy with h1 | h1
  · exact h.2 y h1
  · simp at h1; rw [h1]; exact hx⟩
theorem ItsA.mono {n m : Nat} {l : List Itm} (h : ItsA n l) (hm : n ≤ m) : ItsA m l := ⟨Nat.le_trans h.1 hm, h.2⟩
theorem tame7 : Rc.tame ⟨2, 7, 0, 0, 0, ⟨#[]⟩, ⟨#[]⟩, ⟨#[]⟩⟩ := by
  refine ⟨⟨?_, ?_, ?_⟩, ?_, ?_⟩ <;> decide


end Go.Proofs.Ytmahicpheimnjaa

/- The marks of boxes, plainly. -/
namespace Go.Proofs.Ytmahicpheimnjaa

/-- A box with its marks from k on, and the number behind them. -/
def markB (k : Nat) (b : Bx) : Bx := ⟨((k : Nat) : Int), mark (k + 1), mark (k + 2), ((k + 3 : Nat) : Int), marksL (k + 4) b.mails.length⟩
def kB (k : Nat) (b : Bx) : Nat := k + 4 + 3 * b.mails.length
def marksB : Nat → List Bx → List Bx
  | _, [] => []
  | k, b :: bs => markB k b :: marksB (kB k b) bs
def kE : Nat → List Bx → Nat
  | k, [] => k
  | k, b :: bs => kE (kB k b) bs
theorem marksB_length : ∀ (k : Nat) (bs : List Bx), (marksB k bs).length = bs.length
  | _, [] => rfl
  | k, b :: bs => by simp [marksB, marksB_length (kB k b) bs]
theorem kE_le : ∀ (k : Nat) (bs : List Bx), k ≤ kE k bs
  | _, [] => Nat.le_refl _
  | k, b :: bs => by have := kE_le (kB k b) bs; unfold kE; unfold kB at *; omega
theorem kE_take : ∀ (k : Nat) (bs : List Bx) (i : Nat) (b : Bx), bs[i]? = some b → kE k (bs.take (i + 1)) = kB (kE k (bs.take i)) b
  | _, [], i, b, h => by cases h
  | k, c :: bs, 0, b, h => by cases h; rfl
  | k, c :: bs, i + 1, b, h => by
    show kE (kB k c) (bs.take (i + 1)) = kB (kE (kB k c) (bs.take i)) b
    exact kE_take (kB k c) bs i b h
theorem kE_take_le (k : Nat) (bs : List Bx) : ∀ i, kE k (bs.take i) ≤ kE k bs := by
  induction bs generalizing k with
  | nil => intro i; simp [kE]
  | cons b bs ih =>
    intro i
    cases i with
    | zero => exact kE_le k (b :: bs)
    | succ i => exact ih (kB k b) i
theorem marksB_at : ∀ (k : Nat) (bs : List Bx) (i : Nat) (b : Bx), bs[i]? = some b → (marksB k bs)[i]? = some (markB (kE k (bs.take i)) b)
  | _, [], i, b, h => by cases h
  | k, c :: bs, 0, b, h => by cases h; rfl
  | k, c :: bs, i + 1, b, h => by
    show (marksB (kB k c) bs)[i]? = some (markB (kE (kB k c) (bs.take i)) b)
    exact marksB_at (kB k c) bs i b h
/-- The first i marked. -/
def putB (k : Nat) (bs : List Bx) (i : Nat) : List Bx := (marksB k bs).take i ++ bs.drop i
theorem putB_zero (k : Nat) (bs : List Bx) : putB k bs 0 = bs := by simp [putB]
theorem putB_all (k : Nat) (bs : List Bx) : putB k bs bs.length = marksB k bs := by
  unfold putB
  rw [List.take_of_length_le (by rw [marksB_length]; exact Nat.le_refl _), List.drop_length, List.append_nil]
theorem putB_length (k : Nat) (bs : List Bx) (i : Nat) (h : i ≤ bs.length) : (putB k bs i).length = bs.length := by
  unfold putB
  rw [List.length_append, List.length_take, List.length_drop, marksB_length]; omega
theorem putB_at (k : Nat) (bs : List Bx) (i : Nat) (b : Bx) (h : bs[i]? = some b) : (putB k bs i)[i]? = some b := by
  have hl : i < bs.length := (List.getElem?_eq_some_iff.1 h).1
  unfold putB
  rw [List.getElem?_append_right (by rw [List.length_take, marksB_length]; omega), List.length_take, marksB_length, Nat.min_eq_left (Nat.le_of_lt hl), Nat.sub_self, List.getElem?_drop, Nat.add_zero]
  exact h
theorem putB_set (k : Nat) (bs : List Bx) (i : Nat) (b : Bx) (h : bs[i]? = some b) : (putB k bs i).set i (markB (kE k (bs.take i)) b) = putB k bs (i + 1) := by
  have hl : i < bs.length := (List.getElem?_eq_some_iff.1 h).1
  unfold putB
  rw [List.set_append_right _ _ (by rw [List.length_take, marksB_length]; omega)]
  rw [List.length_take, marksB_length, Nat.min_eq_left (Nat.le_of_lt hl), Nat.sub_self, List.drop_eq_getElem_cons hl, List.set_cons_zero, List.take_add_one, marksB_at k bs i b h, List.append_assoc]
  rfl
end Go.Proofs.Ytmahicpheimnjaa

/- The helpers of the exact laws over boxes and states: each is marked, and the marks are held. -/
namespace Go.Proofs.Ytmahicpheimnjaa
open Go.RowKit

theorem set_ways {α : Type} {l : List α} {i j : Nat} {y z : α} (h : (l.set i y)[j]? = some z) : (j = i ∧ z = y) ∨ (j ≠ i ∧ l[j]? = some z) := by
  by_cases c : j = i
  · subst c
    have hl : j < l.length := by have := (List.getElem?_eq_some_iff.1 h).1; simpa using this
    rw [List.getElem?_set_self hl] at h
    exact .inl ⟨rfl, (Option.some.inj h).symm⟩
  · rw [List.getElem?_set_ne (fun e => c e.symm)] at h
    exact .inr ⟨c, h⟩

/-- One cell of a box's own put anew. -/
theorem StO.store {B : Nat} {w : World} {g n cap : Nat} {bs : List Bx} {hs : List BxH} (h : StO B w (.slice (some ⟨g, 0, none⟩) n cap) bs hs) (hn : n = hs.length) {i : Nat} {x : BxH} (hx : hs[i]? = some x) {b : Bx} (hb : bs[i]? = some b)
    (c : Nat) (hc : c < 5) (u : Value) (x' : BxH) (hf : hdE.f x' = (hdE.f x).set c u) (hmv : x'.mv = x.mv) (b' : Bx) (hb' : x'.valid = b'.valid ∧ x'.user = b'.user ∧ x'.name = b'.name ∧ x'.next = b'.next) (hm : b'.mails = b.mails) :
    StO B (w.setCell ⟨g, i * 5 + c, none⟩ u) (.slice (some ⟨g, 0, none⟩) n cap) (bs.set i b') (hs.set i x') := by
  subst hn
  have hg := grownBy_store w g (i * 5 + c) u
  have kept : ∀ (m : Value) (l : List Ml), RBuf mlE B w w m l → (∀ k, m.ownBlock = some k → (Value.slice (some ⟨g, 0, none⟩) hs.length cap).ownBlock ≠ some k) → RBuf mlE B (w.setCell ⟨g, i * 5 + c, none⟩ u) (w.setCell ⟨g, i * 5 + c, none⟩ u) m l := fun m l hm hf => by
    refine hm.shift hg ?_
    cases hmb : m.ownBlock with
    | none => exact .inl rfl
    | some k => exact .inr (fun e => hf k hmb e.symm)
  have hmvs : ∀ {j : Nat} {y : BxH}, (hs.set i x')[j]? = some y → ∃ z, hs[j]? = some z ∧ y.mv = z.mv := fun {j y} hj => by
    rcases set_ways hj with ⟨rfl, rfl⟩ | ⟨_, hj⟩
    · exact ⟨x, hx, hmv⟩
    · exact ⟨y, hj, rfl⟩
  refine ⟨(h.row.stored i x x' hx c hc u hf).here, by simp [h.len], fun j y d h1 h2 => ?_, fun j y h1 k hk => ?_, fun j k y z h1 h2 hjk q hq => ?_⟩
  · rcases set_ways h1 with ⟨rfl, rfl⟩ | ⟨hne, h1⟩
    · rcases set_ways h2 with ⟨_, rfl⟩ | ⟨hne, _⟩
      · refine ⟨hb', ?_⟩
        rw [hmv, hm]
        exact kept _ _ (h.at' j x b hx hb).2 (h.far j x hx)
      · exact absurd rfl hne
    · rcases set_ways h2 with ⟨e, _⟩ | ⟨_, h2⟩
      · exact absurd e hne
      · exact ⟨(h.at' j y d h1 h2).1, kept _ _ (h.at' j y d h1 h2).2 (h.far j y h1)⟩
  · obtain ⟨z, hz, e⟩ := hmvs h1
    rw [e] at hk
    exact h.far j z hz k hk
  · obtain ⟨y0, hy0, e1⟩ := hmvs h1
    obtain ⟨z0, hz0, e2⟩ := hmvs h2
    rw [e1] at hq
    rw [e2]
    exact h.apart j k y0 z0 hy0 hz0 hjk q hq

/-- The mails of a box put anew. -/
theorem StO.mails {B : Nat} {w w' : World} {v : Value} {bs : List Bx} {hs : List BxH} (h : StO B w v bs hs) {i : Nat} {x : BxH} (hx : hs[i]? = some x) {b : Bx} (hb : bs[i]? = some b) (ms : List Ml) (hr : RBuf mlE B w' w' x.mv ms) (hg : w.grownBy w' x.mv.ownBlock) :
    StO B w' v (bs.set i ⟨b.valid, b.user, b.name, b.next, ms⟩) hs := by
  refine ⟨h.row.shift hg ?_, by simp [h.len], fun j y d h1 h2 => ?_, h.far, h.apart⟩
  · cases hv : x.mv.ownBlock with
    | none =>
      cases hv2 : v.ownBlock with
      | none => exact .inl rfl
      | some k => exact .inr (fun e => by cases e)
    | some k => exact .inr (fun e => h.far i x hx k hv e)
  · rcases set_ways h2 with ⟨rfl, rfl⟩ | ⟨hne, h2⟩
    · rw [hx] at h1
      cases h1
      exact ⟨(h.at' j x b hx hb).1, hr⟩
    · refine ⟨(h.at' j y d h1 h2).1, (h.at' j y d h1 h2).2.shift hg ?_⟩
      cases hy : y.mv.ownBlock with
      | none => exact .inl rfl
      | some k => exact .inr (fun e => h.apart j i y x h1 hx hne k hy e.symm)

theorem StO.cellAt {B : Nat} {w : World} {g n cap : Nat} {bs : List Bx} {hs : List BxH} (h : StO B w (.slice (some ⟨g, 0, none⟩) n cap) bs hs) {i : Nat} {y : BxH} (hy : hs[i]? = some y) (hl : n = hs.length) (q : Nat) (u : Value) (hu : (hdE.f y)[q]? = some u) : w.cell? ⟨g, i * 5 + q, none⟩ = some u ∧ w.frozen? ⟨g, i * 5 + q, none⟩ = false := by
  subst hl
  exact ⟨h.row.cell rfl i y hy q u hu, h.row.loose _⟩



end Go.Proofs.Ytmahicpheimnjaa
