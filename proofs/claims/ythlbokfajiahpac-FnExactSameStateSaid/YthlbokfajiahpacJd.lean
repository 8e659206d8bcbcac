/- Texts of our own, joined. -/
import Derived.Test.YthlbokfajiahpacJc
import Derived.Lib.Hide
import Derived.Test.YthlbokfajiahpacJb
import Derived.Laws.StructEq
/- How boxes lie in memory: a row of boxes, each with a row of mails of its own. -/
namespace Go.Proofs.Ythlbokfajiahpac
open Go.RowKit

/-- A box as it lies in its row: its mails are a slice. -/
structure BxH where
  valid : Int
  user : ByteArray
  name : ByteArray
  next : Int
  a : Option Addr
  n : Nat
  c : Nat
def BxH.mv (h : BxH) : Value := .slice h.a h.n h.c

def hdE : Enc BxH where
  ty := 28
  sty := 31
  sz := 5
  bytes := 72
  zero := .agg #[.int .i64 0, .string ⟨#[]⟩, .string ⟨#[]⟩, .int .i64 0, .slice none 0 0]
  f := fun x => [.int .i64 x.valid, .string x.user, .string x.name, .int .i64 x.next, .slice x.a x.n x.c]
  len := fun _ => rfl
  pos := by decide
  one := fun _ u hu => by simp at hu; rcases hu with rfl | rfl | rfl | rfl | rfl <;> rfl
  und := Try.underlying31
  info := by kernel_rfl
  zc := rfl
  z0 := ⟨0, ⟨#[]⟩, ⟨#[]⟩, 0, none, 0, 0⟩
  zf := rfl

/-- Boxes in memory of their own (blocks from B on): the row, and the mails of each, all apart. -/
structure StO (B : Nat) (w : World) (v : Value) (bs : List Bx) (hs : List BxH) : Prop where
  row : RBuf hdE B w w v hs
  len : hs.length = bs.length
  at' : ∀ (j : Nat) (h : BxH) (b : Bx), hs[j]? = some h → bs[j]? = some b → (h.valid = b.valid ∧ h.user = b.user ∧ h.name = b.name ∧ h.next = b.next) ∧ RBuf mlE B w w h.mv b.mails
  far : ∀ (j : Nat) (h : BxH), hs[j]? = some h → ∀ k, h.mv.ownBlock = some k → v.ownBlock ≠ some k
  apart : ∀ (i j : Nat) (h h' : BxH), hs[i]? = some h → hs[j]? = some h' → i ≠ j → ∀ k, h.mv.ownBlock = some k → h'.mv.ownBlock ≠ some k

theorem RBuf.here' {α : Type} {E : Enc α} {B : Nat} {w0 w w' : World} {v : Value} {l : List α} (h : RBuf E B w0 w v l) (hb : Below w.heap.size w w') : RBuf E B w' w' v l := (h.later hb).here
theorem StO.later {B : Nat} {w w' : World} {v : Value} {bs : List Bx} {hs : List BxH} (h : StO B w v bs hs) (hb : Below w.heap.size w w') : StO B w' v bs hs :=
  ⟨h.row.here' hb, h.len, fun j x b h1 h2 => ⟨(h.at' j x b h1 h2).1, (h.at' j x b h1 h2).2.here' hb⟩, h.far, h.apart⟩
theorem StO.nil (w : World) : StO w.heap.size w (.slice none 0 0) [] [] :=
  ⟨RBuf.nil hdE w, rfl, fun j h b h1 => by simp at h1, fun j h h1 => by simp at h1, fun i j h h' h1 => by simp at h1⟩
/-- The mails of a box lie below the heap's end. -/
theorem StO.lt {B : Nat} {w : World} {v : Value} {bs : List Bx} {hs : List BxH} (h : StO B w v bs hs) {j : Nat} {x : BxH} (hj : hs[j]? = some x) {k : Nat} (hk : x.mv.ownBlock = some k) : k < w.heap.size := by
  have hl : j < hs.length := (List.getElem?_eq_some_iff.1 hj).1
  have hb : bs[j]? = some (bs[j]'(by rw [← h.len]; exact hl)) := List.getElem?_eq_getElem _
  exact ((h.at' j x _ hj hb).2.own.lt k hk).2

/-- One box more: it was appended, its mails lying in memory of their own. -/
theorem StO.push {B : Nat} {w w' : World} {v v' : Value} {bs : List Bx} {hs : List BxH} (h : StO B w v bs hs) (b : Bx) (x : BxH)
    (hx : x.valid = b.valid ∧ x.user = b.user ∧ x.name = b.name ∧ x.next = b.next) (hm : RBuf mlE B w w x.mv b.mails)
    (hv : ∀ k, x.mv.ownBlock = some k → v.ownBlock ≠ some k) (ho : ∀ (j : Nat) (y : BxH), hs[j]? = some y → ∀ k, y.mv.ownBlock = some k → x.mv.ownBlock ≠ some k)
    (hr : RBuf hdE B w' w' v' (hs ++ [x])) (hg : w.grownBy w' v.ownBlock) (ha : v'.ownBlock = v.ownBlock ∨ v'.ownBlock = some w.heap.size) : StO B w' v' (bs ++ [b]) (hs ++ [x]) := by
  have kept : ∀ (m : Value) (l : List Ml), RBuf mlE B w w m l → (∀ k, m.ownBlock = some k → v.ownBlock ≠ some k) → RBuf mlE B w' w' m l := fun m l hm hf => by
    refine hm.shift hg ?_
    cases hmb : m.ownBlock with
    | none => exact .inl rfl
    | some k => exact .inr (fun e => hf k hmb e.symm)
  have old : ∀ {j : Nat} {y : BxH}, (hs ++ [x])[j]? = some y → (hs[j]? = some y ∧ j < hs.length) ∨ (j = hs.length ∧ y = x) := fun {j y} hj => by
    by_cases c : j < hs.length
    · rw [List.getElem?_append_left c] at hj
      exact .inl ⟨hj, c⟩
    · rw [List.getElem?_append_right (by omega)] at hj
      have hj0 : j - hs.length = 0 := by
        have := (List.getElem?_eq_some_iff.1 hj).1
        simp at this; omega
      rw [hj0] at hj
      simp at hj
      exact .inr ⟨by omega, hj.symm⟩
  have hvlt : ∀ {k : Nat}, x.mv.ownBlock = some k → k < w.heap.size := fun {k} hk => (hm.own.lt k hk).2
  refine ⟨hr, by simp [h.len], fun j y c h1 h2 => ?_, fun j y h1 k hk => ?_, fun i j y z h1 h2 hij k hk => ?_⟩
  · rcases old h1 with ⟨h3, hl⟩ | ⟨rfl, rfl⟩
    · rw [List.getElem?_append_left (by rw [← h.len]; exact hl)] at h2
      exact ⟨(h.at' j y c h3 h2).1, kept _ _ (h.at' j y c h3 h2).2 (h.far j y h3)⟩
    · rw [List.getElem?_append_right (by rw [h.len]; omega), h.len] at h2
      simp at h2
      subst h2
      exact ⟨hx, kept _ _ hm hv⟩
  · rcases old h1 with ⟨h3, _⟩ | ⟨_, rfl⟩
    · rcases ha with e | e
      · rw [e]; exact h.far j y h3 k hk
      · rw [e]; intro e2; have := h.lt h3 hk; have := Option.some.inj e2; omega
    · rcases ha with e | e
      · rw [e]; exact hv k hk
      · rw [e]; intro e2; have := hvlt hk; have := Option.some.inj e2; omega
  · rcases old h1 with ⟨h3, hl3⟩ | ⟨ei, rfl⟩
    · rcases old h2 with ⟨h4, _⟩ | ⟨_, rfl⟩
      · exact h.apart i j y z h3 h4 hij k hk
      · exact ho i y h3 k hk
    · rcases old h2 with ⟨h4, _⟩ | ⟨ej, _⟩
      · intro e; exact ho j z h4 k e hk
      · omega

end Go.Proofs.Ythlbokfajiahpac

/- The helpers of the exact laws over boxes and states: two alike are alike. -/
namespace Go.Proofs.Ythlbokfajiahpac
open Go.RowKit

/-- Boxes that can be read. -/
def BRd (w : World) (v : Value) (bs : List Bx) : Prop := ∃ hs : List BxH, Rows' hdE w v hs ∧ hs.length = bs.length ∧
  ∀ (j : Nat) (h : BxH) (b : Bx), hs[j]? = some h → bs[j]? = some b → (h.valid = b.valid ∧ h.user = b.user ∧ h.name = b.name ∧ h.next = b.next) ∧ Rows' mlE w h.mv b.mails
theorem StO.rd {B : Nat} {w : World} {v : Value} {bs : List Bx} {hs : List BxH} (h : StO B w v bs hs) : BRd w v bs :=
  ⟨hs, h.row.rows, h.len, fun j x b h1 h2 => ⟨(h.at' j x b h1 h2).1, (h.at' j x b h1 h2).2.rows⟩⟩
theorem BRd.later {w w' : World} {v : Value} {bs : List Bx} (h : BRd w v bs) (hb : Below w.heap.size w w') : BRd w' v bs := by
  obtain ⟨hs, h1, h2, h3⟩ := h
  exact ⟨hs, h1.later hb, h2, fun j x b e1 e2 => ⟨(h3 j x b e1 e2).1, (h3 j x b e1 e2).2.later hb⟩⟩
/-- As a loop reads them. -/
theorem BRd.boxes {w : World} {v : Value} {bs : List Bx} (h : BRd w v bs) : ∃ (ad : Option Addr) (cap : Nat), v = .slice ad bs.length cap ∧ ∀ X, Below w.heap.size w X → ∀ (i : Nat) (b : Bx), bs[i]? = some b → ∃ (g off : Nat) (a : Option Addr) (n c : Nat), ad = some ⟨g, off, none⟩ ∧
    X.cell? ⟨g, off + i * 5, none⟩ = some (.int .i64 b.valid) ∧ X.cell? ⟨g, off + i * 5 + 1, none⟩ = some (.string b.user) ∧ X.cell? ⟨g, off + i * 5 + 2, none⟩ = some (.string b.name) ∧ X.cell? ⟨g, off + i * 5 + 3, none⟩ = some (.int .i64 b.next) ∧ X.cell? ⟨g, off + i * 5 + 4, none⟩ = some (.slice a n c) ∧ Rows' mlE w (.slice a n c) b.mails := by
  obtain ⟨hs, h1, h2, h3⟩ := h
  rcases h1.ways with ⟨rfl, a, c, rfl⟩ | ⟨hne, g, off, c, rfl, hc, hg, hcl⟩
  · have : bs = [] := by rw [← List.length_eq_zero_iff, ← h2]; rfl
    subst this
    exact ⟨a, c, rfl, fun X _ i b hi => by cases hi⟩
  · refine ⟨_, c, by rw [h2], fun X hb i b hi => ?_⟩
    have hl : i < hs.length := by rw [h2]; exact (List.getElem?_eq_some_iff.1 hi).1
    have hx : hs[i]? = some hs[i] := List.getElem?_eq_getElem hl
    obtain ⟨⟨e1, e2, e3, e4⟩, hm⟩ := h3 i _ b hx hi
    have hk : ∀ k u, (hdE.f hs[i])[k]? = some u → X.cell? ⟨g, off + i * 5 + k, none⟩ = some u := fun k u hu => (hb.cell (p := ⟨g, off + i * 5 + k, none⟩) hg).trans (hcl i _ hx k u hu)
    refine ⟨g, off, hs[i].a, hs[i].n, hs[i].c, rfl, ?_, ?_, ?_, ?_, hk 4 _ rfl, hm⟩
    · rw [← e1]; exact hk 0 _ rfl
    · rw [← e2]; exact hk 1 _ rfl
    · rw [← e3]; exact hk 2 _ rfl
    · rw [← e4]; exact hk 3 _ rfl

set_option maxRecDepth 100000 in
set_option maxHeartbeats 1000000 in
theorem eqBox_same (b : Bx) (a1 a2 : Option Addr) (n1 n2 c1 c2 : Nat) (w : World) (ha : Rows' mlE w (.slice a1 n1 c1) b.mails) (hb : Rows' mlE w (.slice a2 n2 c2) b.mails) (hl : b.mails.length ≤ 1099511627776) :
    Calls Try.prog 10 #[.agg #[.int .i64 b.valid, .string b.user, .string b.name, .int .i64 b.next, .slice a1 n1 c1], .agg #[.int .i64 b.valid, .string b.user, .string b.name, .int .i64 b.next, .slice a2 n2 c2]] w fun e w' => e = .returned (.bool true) ∧ Below w.heap.size w w' := by
  have b1 : Below w.heap.size w ((w.alloc (.cells #[.int .i64 b.valid, .string b.user, .string b.name, .int .i64 b.next, .slice a1 n1 c1] 28)).alloc (.cells #[.int .i64 b.valid, .string b.user, .string b.name, .int .i64 b.next, .slice a2 n2 c2] 28)) := ((Below.refl _ _).alloc (Nat.le_refl _) _).alloc (by simp) _
  have HE := Lib.hid (fun wx (hx : Below w.heap.size w wx) => eqMailS_same b.mails _ _ wx (ha.later hx) (hb.later hx) hl)
  clear ha hb
  go_enter Try.func10, Try.ntmps10
  go_wp2_with (go_at_call 23; refine (HE.out _ b1).mono ?_; rintro e w1 ⟨rfl, k1⟩)
  go_ret
  exact ⟨rfl, b1.trans (k1.mono b1.size)⟩

set_option maxRecDepth 100000 in
set_option maxHeartbeats 2000000 in
theorem eqBoxS_same (bs : List Bx) (va vb : Value) (w : World) (ha : BRd w va bs) (hb : BRd w vb bs) (hl : bs.length ≤ 1099511627776) (hm : ∀ b ∈ bs, b.mails.length ≤ 1099511627776) :
    Calls Try.prog 24 #[va, vb] w fun e w' => e = .returned (.bool true) ∧ Below w.heap.size w w' := by
  obtain ⟨ad, cap, rfl, hrowa⟩ := ha.boxes
  obtain ⟨ad2, cap2, rfl, hrowb⟩ := hb.boxes
  have HA := Lib.hid hrowa
  have HB := Lib.hid hrowb
  have HM := Lib.hid hm
  clear ha hb hrowa hrowb hm
  go_enter Try.func24, Try.ntmps24
  go_wp2
  go_loopw [5] (fun iv wr => ∃ i : Nat, i ≤ bs.length ∧ iv = .int .i64 (i : Int) ∧ Below w.heap.size w wr) (fun iv _ => bs.length - (intOf iv).toNat)
  case atStart => exact ⟨0, by omega, rfl, Below.refl _ _⟩
  case round =>
    obtain ⟨i, hi, rfl, hbel⟩ := hrel
    by_cases hlt : i < bs.length
    · have hg : bs[i]? = some bs[i] := List.getElem?_eq_getElem hlt
      have hbd : Below w.heap.size w wr.drew := hbel.drew
      obtain ⟨ga, oa, a1, n1, c1, rfl, p0, p1, p2, p3, p4, ra⟩ := HA.out _ hbd i _ hg
      obtain ⟨gb, ob, a2, n2, c2, rfl, q0, q1, q2, q3, q4, rb⟩ := HB.out _ hbd i _ hg
      have hml := HM.out bs[i] (List.getElem_mem hlt)
      have HS : Hid (∀ X, Below wr.drew.heap.size wr.drew X → X.cell? ⟨ga, oa + i * 5, none⟩ = some (.int .i64 bs[i].valid) ∧ X.cell? ⟨ga, oa + i * 5 + 1, none⟩ = some (.string bs[i].user) ∧ X.cell? ⟨ga, oa + i * 5 + 2, none⟩ = some (.string bs[i].name) ∧ X.cell? ⟨ga, oa + i * 5 + 3, none⟩ = some (.int .i64 bs[i].next) ∧ X.cell? ⟨ga, oa + i * 5 + 4, none⟩ = some (.slice a1 n1 c1) ∧
          X.cell? ⟨gb, ob + i * 5, none⟩ = some (.int .i64 bs[i].valid) ∧ X.cell? ⟨gb, ob + i * 5 + 1, none⟩ = some (.string bs[i].user) ∧ X.cell? ⟨gb, ob + i * 5 + 2, none⟩ = some (.string bs[i].name) ∧ X.cell? ⟨gb, ob + i * 5 + 3, none⟩ = some (.int .i64 bs[i].next) ∧ X.cell? ⟨gb, ob + i * 5 + 4, none⟩ = some (.slice a2 n2 c2)) := by
        intro X hX
        have cc : ∀ {g o : Nat} {u : Value}, wr.drew.cell? ⟨g, o, none⟩ = some u → X.cell? ⟨g, o, none⟩ = some u := fun {g o u} h => (hX.cell (p := ⟨g, o, none⟩) (World.block_lt_of_cell? _ _ h)).trans h
        exact ⟨cc p0, cc p1, cc p2, cc p3, cc p4, cc q0, cc q1, cc q2, cc q3, cc q4⟩
      have HE := Lib.hid (fun wx (hx : Below w.heap.size w wx) => eqBox_same bs[i] a1 a2 n1 n2 c1 c2 wx (ra.later hx) (rb.later hx) hml)
      generalize bs[i] = b at *
      have hi0 : (0 : Int) ≤ (i : Int) := by omega
      have hi1 : (i : Int) < (bs.length : Int) := by omega
      clear hg ra rb hml
      go_wp2
      go_region_held3 (fun X => X.cell? ⟨ga, oa + i * 5, none⟩ = some (.int .i64 b.valid) ∧ X.cell? ⟨ga, oa + i * 5 + 1, none⟩ = some (.string b.user) ∧ X.cell? ⟨ga, oa + i * 5 + 2, none⟩ = some (.string b.name) ∧ X.cell? ⟨ga, oa + i * 5 + 3, none⟩ = some (.int .i64 b.next) ∧ X.cell? ⟨ga, oa + i * 5 + 4, none⟩ = some (.slice a1 n1 c1) ∧
          X.cell? ⟨gb, ob + i * 5, none⟩ = some (.int .i64 b.valid) ∧ X.cell? ⟨gb, ob + i * 5 + 1, none⟩ = some (.string b.user) ∧ X.cell? ⟨gb, ob + i * 5 + 2, none⟩ = some (.string b.name) ∧ X.cell? ⟨gb, ob + i * 5 + 3, none⟩ = some (.int .i64 b.next) ∧ X.cell? ⟨gb, ob + i * 5 + 4, none⟩ = some (.slice a2 n2 c2))
        (first | exact HS.out _ (Below.refl _ _) | exact HS.out _ hb1)
        (first | (go_at_call 10; refine (HE.out _ hbd).mono ?_; rintro e w1 ⟨rfl, hb1⟩))
      all_goals
        go_wp2
        go_roundw
        case rel => exact ⟨i + 1, by omega, by go_num, hbd.trans (hb1.mono hbd.size)⟩
        case measure => simp [intOf]; omega
    · go_wp2
      go_ret
      exact ⟨rfl, hbel⟩

set_option maxRecDepth 100000 in
set_option maxHeartbeats 1000000 in
theorem eqState_same (bs : List Bx) (va vb : Value) (w : World) (ha : BRd w va bs) (hb : BRd w vb bs) (hl : bs.length ≤ 1099511627776) (hm : ∀ b ∈ bs, b.mails.length ≤ 1099511627776) :
    Calls Try.prog 11 #[.agg #[va], .agg #[vb]] w fun e w' => e = .returned (.bool true) ∧ Below w.heap.size w w' := by
  obtain ⟨ad, cap, rfl, _⟩ := ha.boxes
  obtain ⟨ad2, cap2, rfl, _⟩ := hb.boxes
  have b1 : Below w.heap.size w ((w.alloc (.cells #[.slice ad bs.length cap] 33)).alloc (.cells #[.slice ad2 bs.length cap2] 33)) := ((Below.refl _ _).alloc (Nat.le_refl _) _).alloc (by simp) _
  have HE := Lib.hid (fun wx (hx : Below w.heap.size w wx) => eqBoxS_same bs _ _ wx (ha.later hx) (hb.later hx) hl hm)
  clear ha hb hm
  go_enter Try.func11, Try.ntmps11
  go_wp2_with (go_at_call 24; refine (HE.out _ b1).mono ?_; rintro e w1 ⟨rfl, k1⟩)
  go_ret
  exact ⟨rfl, b1.trans (k1.mono b1.size)⟩

end Go.Proofs.Ythlbokfajiahpac

/- States held against each other, and right states, plainly. -/
namespace Go.Proofs.Ythlbokfajiahpac

/-- The same boxes. -/
noncomputable def sameS (ps bs : List Bx) : Bool := @decide (ps = bs) (Classical.propDecidable _)
theorem sameS_yes {ps bs : List Bx} (h : ps = bs) : sameS ps bs = true := @decide_eq_true _ (Classical.propDecidable _) h
theorem sameS_no {ps bs : List Bx} (h : ps ≠ bs) : sameS ps bs = false := @decide_eq_false _ (Classical.propDecidable _) h
theorem sameS_len {ps bs : List Bx} (h : ps.length ≠ bs.length) : sameS ps bs = false := sameS_no (fun e => h (by rw [e]))
theorem sameS_part {ps bs : List Bx} {i : Nat} {a b : Bx} (ha : ps[i]? = some a) (hb : bs[i]? = some b) (h : a ≠ b) : sameS ps bs = false := sameS_no (fun e => h (by rw [e, hb] at ha; exact (Option.some.inj ha).symm))
theorem sameS_all {ps bs : List Bx} (hl : ps.length = bs.length) (h : ∀ (i : Nat) (a b : Bx), ps[i]? = some a → bs[i]? = some b → a = b) : sameS ps bs = true :=
  sameS_yes (List.ext_getElem? fun i => by
    by_cases c : i < ps.length
    · have h1 : ps[i]? = some ps[i] := List.getElem?_eq_getElem c
      have h2 : bs[i]? = some (bs[i]'(by omega)) := List.getElem?_eq_getElem (by omega)
      rw [h1, h2, h i _ _ h1 h2]
    · rw [List.getElem?_eq_none (by omega), List.getElem?_eq_none (by omega)])
theorem bx_same {a b : Bx} (h1 : a.valid = b.valid) (h2 : a.user = b.user) (h3 : a.name = b.name) (h4 : a.next = b.next) (hl : a.mails.length = b.mails.length) (h : ∀ (k : Nat) (x y : Ml), a.mails[k]? = some x → b.mails[k]? = some y → x = y) : a = b := by
  obtain ⟨v, u, n, x, m⟩ := a
  obtain ⟨v', u', n', x', m'⟩ := b
  simp only at h1 h2 h3 h4 hl h
  subst h1 h2 h3 h4
  have : m = m' := List.ext_getElem? fun i => by
    by_cases c : i < m.length
    · have e1 : m[i]? = some m[i] := List.getElem?_eq_getElem c
      have e2 : m'[i]? = some (m'[i]'(by omega)) := List.getElem?_eq_getElem (by omega)
      rw [e1, e2, h i _ _ e1 e2]
    · rw [List.getElem?_eq_none (by omega), List.getElem?_eq_none (by omega)]
  rw [this]

end Go.Proofs.Ythlbokfajiahpac

/- What records tell: the model's choice of a record. -/
namespace Go.Proofs.Ythlbokfajiahpac
open Go.RowKit

theorem Box.set9 {w : World} {b : Nat} {u0 u1 u2 u3 u4 u5 u6 u7 u8 : Value} {t : TypeId} (h : Box w b #[u0, u1, u2, u3, u4, u5, u6, u7, u8] t) (v0 v1 v2 v3 v4 v5 v6 v7 v8 : Value) : Box ((Go.Proofs.Ythlbokfajiahpac.set8 w b v0 v1 v2 v3 v4 v5 v6 v7).setCell ⟨b, 8, none⟩ v8) b #[v0, v1, v2, v3, v4, v5, v6, v7, v8] t :=
  have a0 : Box (w.setCell ⟨b, 0, none⟩ v0) b #[v0, u1, u2, u3, u4, u5, u6, u7, u8] t := h.set 0 v0
  have a1 : Box ((w.setCell ⟨b, 0, none⟩ v0).setCell ⟨b, 1, none⟩ v1) b #[v0, v1, u2, u3, u4, u5, u6, u7, u8] t := a0.set 1 v1
  have a2 : Box (((w.setCell ⟨b, 0, none⟩ v0).setCell ⟨b, 1, none⟩ v1).setCell ⟨b, 2, none⟩ v2) b #[v0, v1, v2, u3, u4, u5, u6, u7, u8] t := a1.set 2 v2
  have a3 : Box ((((w.setCell ⟨b, 0, none⟩ v0).setCell ⟨b, 1, none⟩ v1).setCell ⟨b, 2, none⟩ v2).setCell ⟨b, 3, none⟩ v3) b #[v0, v1, v2, v3, u4, u5, u6, u7, u8] t := a2.set 3 v3
  have a4 : Box (((((w.setCell ⟨b, 0, none⟩ v0).setCell ⟨b, 1, none⟩ v1).setCell ⟨b, 2, none⟩ v2).setCell ⟨b, 3, none⟩ v3).setCell ⟨b, 4, none⟩ v4) b #[v0, v1, v2, v3, v4, u5, u6, u7, u8] t := a3.set 4 v4
  have a5 : Box ((((((w.setCell ⟨b, 0, none⟩ v0).setCell ⟨b, 1, none⟩ v1).setCell ⟨b, 2, none⟩ v2).setCell ⟨b, 3, none⟩ v3).setCell ⟨b, 4, none⟩ v4).setCell ⟨b, 5, none⟩ v5) b #[v0, v1, v2, v3, v4, v5, u6, u7, u8] t := a4.set 5 v5
  have a6 : Box (((((((w.setCell ⟨b, 0, none⟩ v0).setCell ⟨b, 1, none⟩ v1).setCell ⟨b, 2, none⟩ v2).setCell ⟨b, 3, none⟩ v3).setCell ⟨b, 4, none⟩ v4).setCell ⟨b, 5, none⟩ v5).setCell ⟨b, 6, none⟩ v6) b #[v0, v1, v2, v3, v4, v5, v6, u7, u8] t := a5.set 6 v6
  have a7 : Box ((((((((w.setCell ⟨b, 0, none⟩ v0).setCell ⟨b, 1, none⟩ v1).setCell ⟨b, 2, none⟩ v2).setCell ⟨b, 3, none⟩ v3).setCell ⟨b, 4, none⟩ v4).setCell ⟨b, 5, none⟩ v5).setCell ⟨b, 6, none⟩ v6).setCell ⟨b, 7, none⟩ v7) b #[v0, v1, v2, v3, v4, v5, v6, v7, u8] t := a6.set 7 v7
  have a8 : Box (((((((((w.setCell ⟨b, 0, none⟩ v0).setCell ⟨b, 1, none⟩ v1).setCell ⟨b, 2, none⟩ v2).setCell ⟨b, 3, none⟩ v3).setCell ⟨b, 4, none⟩ v4).setCell ⟨b, 5, none⟩ v5).setCell ⟨b, 6, none⟩ v6).setCell ⟨b, 7, none⟩ v7).setCell ⟨b, 8, none⟩ v8) b #[v0, v1, v2, v3, v4, v5, v6, v7, v8] t := a7.set 8 v8
  a8

theorem bestO_take {k : Itm → Int} {p : Itm → Bool} {l : List Itm} {i : Nat} {x : Itm} (h : l[i]? = some x) : bestO k p (l.take (i + 1)) = bestStep k p (bestO k p (l.take i)) x := by
  unfold bestO
  rw [List.take_add_one, h, List.foldl_append]
  rfl

/-- What the choice hands back. -/
def bestT (o : Option Itm) : Value := match o with
  | some x => .tuple #[itV x.1 x.2, .bool true]
  | none => .tuple #[itV 0 Rc.nil, .bool false]
/-- What stands in its variable. -/
def bestX (o : Option Itm) : Itm := o.getD (0, Rc.nil)
theorem bestT_eq (o : Option Itm) : bestT o = .tuple #[itV (bestX o).1 (bestX o).2, .bool o.isSome] := by cases o <;> rfl
def bestP (kind valid uid : Int) (x : Itm) : Bool := decide (x.2.kind = kind ∧ x.2.valid = valid ∧ x.2.uid = uid)
theorem bestStep_no {k : Itm → Int} {p : Itm → Bool} {o : Option Itm} {x : Itm} (h : p x = false) : bestStep k p o x = o := by
  unfold bestStep; rw [h]; rfl
theorem bestStep_yes {p : Itm → Bool} {o : Option Itm} {x : Itm} (h : p x = true) (h2 : o = none ∨ (bestX o).1 < x.1) : bestStep (fun _ => 0) p o x = some x := by
  unfold bestStep; rw [if_pos h]
  cases o with
  | none => rfl
  | some y =>
    have : y.1 < x.1 := by rcases h2 with h2 | h2; cases h2; exact h2
    exact if_pos (decide_eq_true (.inr ⟨rfl, this⟩))
theorem bestStep_old {p : Itm → Bool} {o : Option Itm} {x : Itm} (h : p x = true) (h1 : o.isSome = true) (h2 : ¬ (bestX o).1 < x.1) : bestStep (fun _ => 0) p o x = o := by
  unfold bestStep; rw [if_pos h]
  cases o with
  | none => cases h1
  | some y => exact if_neg (fun c => by have := of_decide_eq_true c; dsimp only at this; have h2 : ¬ y.1 < x.1 := h2; omega)


end Go.Proofs.Ythlbokfajiahpac

/- States held against each other: the model's SameState. -/
namespace Go.Proofs.Ythlbokfajiahpac
open Go.RowKit

theorem Box.five {w : World} {b : Nat} {u0 u1 u2 u3 u4 : Value} {t : TypeId} (h : Box w b #[u0, u1, u2, u3, u4] t) : w.cell? ⟨b, 0, none⟩ = some u0 ∧ w.cell? ⟨b, 1, none⟩ = some u1 ∧ w.cell? ⟨b, 2, none⟩ = some u2 ∧ w.cell? ⟨b, 3, none⟩ = some u3 ∧ w.cell? ⟨b, 4, none⟩ = some u4 :=
  ⟨h.cell 0 _ rfl, h.cell 1 _ rfl, h.cell 2 _ rfl, h.cell 3 _ rfl, h.cell 4 _ rfl⟩
/-- Mails that can be read, ps a loop reads them. -/
def MlRow (w : World) (ad : Option Addr) (l : List Ml) : Prop := ∀ X, Below w.heap.size w X → ∀ i m, l[i]? = some m → ∃ g off, ad = some ⟨g, off, none⟩ ∧ X.cell? ⟨g, off + i * 3, none⟩ = some (.int .i64 m.uid) ∧ X.cell? ⟨g, off + i * 3 + 1, none⟩ = some (.int .i64 m.flags) ∧ X.cell? ⟨g, off + i * 3 + 2, none⟩ = some (.string m.text)
theorem MlRow.get {w : World} {ad : Option Addr} {l : List Ml} (h : MlRow w ad l) {X : World} (hb : Below w.heap.size w X) {i : Nat} {m : Ml} (hi : l[i]? = some m) : ∃ g off, ad = some ⟨g, off, none⟩ ∧ X.cell? ⟨g, off + i * 3, none⟩ = some (.int .i64 m.uid) ∧ X.cell? ⟨g, off + i * 3 + 1, none⟩ = some (.int .i64 m.flags) ∧ X.cell? ⟨g, off + i * 3 + 2, none⟩ = some (.string m.text) := h X hb i m hi
theorem Rows'.mails {w : World} {a : Option Addr} {n c : Nat} {l : List Ml} (h : Rows' mlE w (.slice a n c) l) : n = l.length ∧ MlRow w a l := by
  rcases h.ways with ⟨rfl, a, c, e⟩ | ⟨hne, g, off, c, e, hc, hg, hcl⟩
  · cases e
    exact ⟨rfl, fun X _ i x hi => by cases hi⟩
  · cases e
    exact ⟨rfl, fun X hb i x hi => ⟨g, off, rfl, ml_cells hcl hg hb i x hi⟩⟩

theorem ba_same' (a b : ByteArray) : a.toList = b.toList ↔ a = b := by
  have h := ba_beq a b
  constructor
  · intro e
    rw [beq_iff_eq.2 e] at h
    exact of_decide_eq_true h.symm
  · intro e; rw [e]

set_option maxRecDepth 100000 in
set_option maxHeartbeats 4000000 in
theorem specSameState_any (ps qs : List Bx) (va vb : Value) (w : World) (ha : BRd w va ps) (hb : BRd w vb qs) (hla : ps.length ≤ 1099511627776) (hma : ∀ b ∈ ps, b.mails.length ≤ 1099511627776) (hmb : ∀ b ∈ qs, b.mails.length ≤ 1099511627776) :
    Calls Try.prog 15 #[.agg #[va], .agg #[vb]] w fun e w' => e = .returned (.bool (sameS ps qs)) ∧ Below w.heap.size w w' := by
  obtain ⟨ad, cap, rfl, hrowa⟩ := ha.boxes
  obtain ⟨ad2, cap2, rfl, hrowb⟩ := hb.boxes
  have HA := Lib.hid hrowa
  have HB := Lib.hid hrowb
  have HMA := Lib.hid hma
  have HMB := Lib.hid hmb
  clear ha hb hrowa hrowb hma hmb
  obtain ⟨D, hD⟩ : ∃ D, sameS ps qs = D := ⟨_, rfl⟩
  have HD := Lib.hid hD
  rw [hD]
  clear hD
  by_cases hlen : ps.length = qs.length
  · obtain ⟨n, hn⟩ : ∃ n, ps.length = n := ⟨_, rfl⟩
    have hm : qs.length = n := by omega
    have HN := Lib.hid hn
    have HM := Lib.hid hm
    rw [hn] at hla
    rw [hn, hm]
    clear hn hm hlen
    have b1 : Below w.heap.size w ((w.alloc (.cells #[.slice ad n cap] 33)).alloc (.cells #[.slice ad2 n cap2] 33)) := ((Below.refl _ _).alloc (Nat.le_refl _) _).alloc (by simp) _
    have X2 := (Box.new w #[.slice ad n cap] 33).later (belNew _ (.cells #[.slice ad2 n cap2] 33))
    have X3 : Box ((w.alloc (.cells #[.slice ad n cap] 33)).alloc (.cells #[.slice ad2 n cap2] 33)) (w.heap.size + 1) #[.slice ad2 n cap2] 33 := by
      have := Box.new (w.alloc (.cells #[.slice ad n cap] 33)) #[.slice ad2 n cap2] 33
      rwa [show (w.alloc (.cells #[.slice ad n cap] 33)).heap.size = w.heap.size + 1 from by simp] at this
    go_enter Try.func15, Try.ntmps15
    go_wp2
    generalize (w.alloc (.cells #[.slice ad n cap] 33)).alloc (.cells #[.slice ad2 n cap2] 33) = w1 at b1 X2 X3 ⊢
    have BW := Lib.hid b1
    clear b1
    generalize w.heap.size + 1 = g3 at X3 ⊢
    generalize hg2 : w.heap.size = g2 at X2 ⊢
    clear hg2
    go_loopw [5] (fun iv wr => ∃ i : Nat, i ≤ n ∧ iv = .int .i64 (i : Int) ∧ (∀ (j : Nat) (x y : Bx), ps[j]? = some x → qs[j]? = some y → j < i → x = y) ∧ Below w1.heap.size w1 wr) (fun iv _ => n - (intOf iv).toNat)
    case atStart => exact ⟨0, by omega, rfl, fun j x y _ _ hj => by omega, Below.refl _ _⟩
    case round =>
      obtain ⟨i, hi, rfl, hU, hb⟩ := hrel
      have HU := Lib.hid hU
      clear hU
      have Y2 : wr.cell? ⟨g2, 0, none⟩ = some (.slice ad n cap) := (X2.later hb).cell 0 _ rfl
      have Y3 : wr.cell? ⟨g3, 0, none⟩ = some (.slice ad2 n cap2) := (X3.later hb).cell 0 _ rfl
      by_cases hlt : i < n
      · obtain ⟨x, hgx⟩ : ∃ x, ps[i]? = some x := ⟨_, List.getElem?_eq_getElem (by rw [HN.out]; exact hlt)⟩
        obtain ⟨y, hgy⟩ : ∃ y, qs[i]? = some y := ⟨_, List.getElem?_eq_getElem (by rw [HM.out]; exact hlt)⟩
        have bW : Below w.heap.size w wr := BW.out.trans (hb.mono BW.out.size)
        obtain ⟨gp, op, a1, n1, c1, rfl, p0, p1, p2, p3, p4, ra⟩ := HA.out _ bW i _ hgx
        obtain ⟨gq, oq, a2, n2, c2, rfl, q0, q1, q2, q3, q4, rb⟩ := HB.out _ (bW.trans ((belNew _ (.cells #[.int .i64 x.valid, .string x.user, .string x.name, .int .i64 x.next, .slice a1 n1 c1] 28)).mono bW.size)) i _ hgy
        have hmx := HMA.out x (List.mem_of_getElem? hgx)
        have hmy := HMB.out y (List.mem_of_getElem? hgy)
        have HX := Lib.hid hgx
        have HY := Lib.hid hgy
        clear hgx hgy
        obtain ⟨rfl, ra'⟩ := ra.mails
        obtain ⟨rfl, rb'⟩ := rb.mails
        have RA := Lib.hid ra'
        have RB := Lib.hid rb'
        clear ra rb ra' rb'
        have hi0 : (0 : Int) ≤ (i : Int) := by omega
        have hi1 : (i : Int) < (n : Int) := by omega
        have X6 := (Box.new wr #[.int .i64 x.valid, .string x.user, .string x.name, .int .i64 x.next, .slice a1 x.mails.length c1] 28).later (belNew _ (.cells #[.int .i64 y.valid, .string y.user, .string y.name, .int .i64 y.next, .slice a2 y.mails.length c2] 28))
        have X7 : Box ((wr.alloc (.cells #[.int .i64 x.valid, .string x.user, .string x.name, .int .i64 x.next, .slice a1 x.mails.length c1] 28)).alloc (.cells #[.int .i64 y.valid, .string y.user, .string y.name, .int .i64 y.next, .slice a2 y.mails.length c2] 28)) (wr.heap.size + 1) #[.int .i64 y.valid, .string y.user, .string y.name, .int .i64 y.next, .slice a2 y.mails.length c2] 28 := by
          have := Box.new (wr.alloc (.cells #[.int .i64 x.valid, .string x.user, .string x.name, .int .i64 x.next, .slice a1 x.mails.length c1] 28)) #[.int .i64 y.valid, .string y.user, .string y.name, .int .i64 y.next, .slice a2 y.mails.length c2] 28
          rwa [show (wr.alloc (.cells #[.int .i64 x.valid, .string x.user, .string x.name, .int .i64 x.next, .slice a1 x.mails.length c1] 28)).heap.size = wr.heap.size + 1 from by simp] at this
        have b2 : Below w1.heap.size w1 ((wr.alloc (.cells #[.int .i64 x.valid, .string x.user, .string x.name, .int .i64 x.next, .slice a1 x.mails.length c1] 28)).alloc (.cells #[.int .i64 y.valid, .string y.user, .string y.name, .int .i64 y.next, .slice a2 y.mails.length c2] 28)) := (hb.alloc hb.size _).alloc (by simp; have := hb.size; omega) _
        have Z3 := (X3.later (hb.trans ((belNew wr (.cells #[.int .i64 x.valid, .string x.user, .string x.name, .int .i64 x.next, .slice a1 x.mails.length c1] 28)).mono hb.size))).cell 0 _ rfl
        go_upto_region 8 with fail
        generalize (wr.alloc (.cells #[.int .i64 x.valid, .string x.user, .string x.name, .int .i64 x.next, .slice a1 x.mails.length c1] 28)).alloc (.cells #[.int .i64 y.valid, .string y.user, .string y.name, .int .i64 y.next, .slice a2 y.mails.length c2] 28) = w2 at b2 X6 X7 ⊢
        generalize wr.heap.size + 1 = g7 at X7 ⊢
        generalize wr.heap.size = g6 at X6 ⊢
        clear p0 p1 p2 p3 p4 q0 q1 q2 q3 q4 Y2 Y3 Z3 hb bW
        obtain ⟨x0, x1, x2, x3, x4⟩ := X6.five
        obtain ⟨y0, y1, y2, y3, y4⟩ := X7.five

        have HXB := Lib.hid X6
        have HYB := Lib.hid X7
        have HB2 := Lib.hid b2
        have hend : Below w.heap.size w w2 := BW.out.trans (b2.mono BW.out.size)
        clear X6 X7 b2
        by_cases e0 : x.valid = y.valid
        case neg =>
          go_wp2
          go_ret
          exact ⟨by rw [← HD.out, sameS_part HX.out HY.out (fun e => e0 (by rw [e]))]; rfl, hend⟩
        by_cases e1 : x.user = y.user
        case neg =>
          have e1' : ¬ (x.user.toList = y.user.toList) := fun h => e1 ((ba_same' _ _).1 h)
          go_wp2
          go_ret
          exact ⟨by rw [← HD.out, sameS_part HX.out HY.out (fun e => e1 (by rw [e]))]; rfl, hend⟩
        by_cases e2 : x.name = y.name
        case neg =>
          have e2' : ¬ (x.name.toList = y.name.toList) := fun h => e2 ((ba_same' _ _).1 h)
          go_wp2
          go_ret
          exact ⟨by rw [← HD.out, sameS_part HX.out HY.out (fun e => e2 (by rw [e]))]; rfl, hend⟩
        by_cases e3 : x.next = y.next
        case neg =>
          go_wp2
          go_ret
          exact ⟨by rw [← HD.out, sameS_part HX.out HY.out (fun e => e3 (by rw [e]))]; rfl, hend⟩
        by_cases e4 : x.mails.length = y.mails.length
        case neg =>
          have e4' : ¬ ((x.mails.length : Int) = (y.mails.length : Int)) := by omega
          go_wp2
          go_ret
          exact ⟨by rw [← HD.out, sameS_part HX.out HY.out (fun e => e4 (by rw [e]))]; rfl, hend⟩
        have HSM : Hid ((∀ (k : Nat) (m m' : Ml), x.mails[k]? = some m → y.mails[k]? = some m' → m = m') → x = y) := fun h => bx_same e0 e1 e2 e3 e4 h
        obtain ⟨n1, hm0⟩ : ∃ m, x.mails.length = m := ⟨_, rfl⟩
        have hm1 : y.mails.length = n1 := by omega
        have HM0 := Lib.hid hm0
        have HM1 := Lib.hid hm1
        rw [hm0] at HXB x4 hmx
        rw [hm1] at HYB y4
        rw [hm0, hm1]
        clear hm0 hm1 hmy e4
        go_wp2
        clear x0 x1 x2 x3 x4 y0 y1 y2 y3 y4 e0 e1 e2 e3
        go_loopw [8] (fun kv wr2 => ∃ k : Nat, k ≤ n1 ∧ kv = .int .i64 (k : Int) ∧ (∀ (j : Nat) (m m' : Ml), x.mails[j]? = some m → y.mails[j]? = some m' → j < k → m = m') ∧ Below w2.heap.size w2 wr2) (fun kv _ => n1 - (intOf kv).toNat)
        case atStart => exact ⟨0, by omega, rfl, fun j m m' _ _ hj => by omega, Below.refl _ _⟩
        case round =>
          obtain ⟨k, hk, rfl, hU2, hb⟩ := hrel
          have HU2 := Lib.hid hU2
          clear hU2
          have x4 : wr.cell? ⟨g6, 4, none⟩ = some (.slice a1 n1 c1) := (HXB.out.later hb).cell 4 _ rfl
          by_cases hlk : k < n1
          · have bW : Below w.heap.size w wr := hend.trans (hb.mono hend.size)
            have bD : Below w.heap.size w wr.drew := bW.trans ((Below.refl wr.heap.size wr).drew.mono bW.size)
            have bR : Below w2.heap.size w2 wr.drew := hb.trans ((Below.refl wr.heap.size wr).drew.mono hb.size)
            have z4 : wr.drew.cell? ⟨g6, 4, none⟩ = some (.slice a1 n1 c1) := (HXB.out.later bR).cell 4 _ rfl
            have y4 : wr.drew.cell? ⟨g7, 4, none⟩ = some (.slice a2 n1 c2) := (HYB.out.later bR).cell 4 _ rfl
            obtain ⟨m, hgm⟩ : ∃ m, x.mails[k]? = some m := ⟨_, List.getElem?_eq_getElem (by rw [HM0.out]; exact hlk)⟩
            obtain ⟨m', hgm'⟩ : ∃ m, y.mails[k]? = some m := ⟨_, List.getElem?_eq_getElem (by rw [HM1.out]; exact hlk)⟩
            obtain ⟨ga, oa, rfl, p0, p1, p2⟩ := MlRow.get RA.out bD hgm
            obtain ⟨gb, ob, rfl, q0, q1, q2⟩ := MlRow.get RB.out bD hgm'
            have HG := Lib.hid hgm
            have HG' := Lib.hid hgm'
            clear hgm hgm' hb bW
            obtain ⟨U, F, T⟩ := m
            obtain ⟨U', F', T'⟩ := m'
            simp only at p0 p1 p2 q0 q1 q2
            have hk0 : (0 : Int) ≤ (k : Int) := by omega
            have hk1 : (k : Int) < (n1 : Int) := by omega
            by_cases hsame : U = U' ∧ F = F' ∧ T = T'
            · obtain ⟨rfl, rfl, rfl⟩ := hsame
              go_wp2_with fail
              refine wp_region_held_drew (S := fun x => wr.drew = x) (by kernel_rfl) rfl (fun hHeld => ?_)
              refine takeL (i := 0) (v := .pointer (some ⟨g6, 4, none⟩)) rfl (by kernel_rfl) (by kernel_rfl) (by kernel_rfl) (fun _ _ _ h => h) (Or.inl ⟨by rfl, ?_⟩) (by assumption) ?_
              · intro x hSx; subst hSx; go_simp
              try simp only [Act.put, List.setIfInBounds_toArray, List.set_cons_zero, List.set_cons_succ]
              refine takeL (i := 1) (v := .slice (some ⟨ga, oa, none⟩) n1 c1) rfl (by kernel_rfl) (by kernel_rfl) (by kernel_rfl) (fun _ _ _ h => h) (Or.inl ⟨by rfl, ?_⟩) (by assumption) ?_
              · intro x hSx; subst hSx; go_simp
              try simp only [Act.put, List.setIfInBounds_toArray, List.set_cons_zero, List.set_cons_succ]
              refine takeL (i := 2) (v := .int .i64 (k : Int)) rfl (by kernel_rfl) (by kernel_rfl) (by kernel_rfl) (fun _ _ _ h => h) (Or.inl ⟨by rfl, ?_⟩) (by assumption) ?_
              · intro x hSx; subst hSx; go_simp
              try simp only [Act.put, List.setIfInBounds_toArray, List.set_cons_zero, List.set_cons_succ]
              refine takeL (i := 3) (v := .pointer (some ⟨ga, oa + k * 3, none⟩)) rfl (by kernel_rfl) (by kernel_rfl) (by kernel_rfl) (fun _ _ _ h => h) (Or.inl ⟨by rfl, ?_⟩) (by assumption) ?_
              · intro x hSx; subst hSx; go_simp
              try simp only [Act.put, List.setIfInBounds_toArray, List.set_cons_zero, List.set_cons_succ]
              refine takeL (i := 4) (v := .agg #[.int .i64 U, .int .i64 F, .string T]) rfl (by kernel_rfl) (by kernel_rfl) (by kernel_rfl) (fun _ _ _ h => h) (Or.inl ⟨by rfl, ?_⟩) (by assumption) ?_
              · intro x hSx; subst hSx; go_simp
              try simp only [Act.put, List.setIfInBounds_toArray, List.set_cons_zero, List.set_cons_succ]
              refine takeL (i := 5) (v := .pointer (some ⟨g7, 4, none⟩)) rfl (by kernel_rfl) (by kernel_rfl) (by kernel_rfl) (fun _ _ _ h => h) (Or.inl ⟨by rfl, ?_⟩) (by assumption) ?_
              · intro x hSx; subst hSx; go_simp
              try simp only [Act.put, List.setIfInBounds_toArray, List.set_cons_zero, List.set_cons_succ]
              refine takeL (i := 6) (v := .slice (some ⟨gb, ob, none⟩) n1 c2) rfl (by kernel_rfl) (by kernel_rfl) (by kernel_rfl) (fun _ _ _ h => h) (Or.inl ⟨by rfl, ?_⟩) (by assumption) ?_
              · intro x hSx; subst hSx; go_simp
              try simp only [Act.put, List.setIfInBounds_toArray, List.set_cons_zero, List.set_cons_succ]
              refine takeL (i := 7) (v := .int .i64 (k : Int)) rfl (by kernel_rfl) (by kernel_rfl) (by kernel_rfl) (fun _ _ _ h => h) (Or.inl ⟨by rfl, ?_⟩) (by assumption) ?_
              · intro x hSx; subst hSx; go_simp
              try simp only [Act.put, List.setIfInBounds_toArray, List.set_cons_zero, List.set_cons_succ]
              refine takeL (i := 8) (v := .pointer (some ⟨gb, ob + k * 3, none⟩)) rfl (by kernel_rfl) (by kernel_rfl) (by kernel_rfl) (fun _ _ _ h => h) (Or.inl ⟨by rfl, ?_⟩) (by assumption) ?_
              · intro x hSx; subst hSx; go_simp
              try simp only [Act.put, List.setIfInBounds_toArray, List.set_cons_zero, List.set_cons_succ]
              refine takeL (i := 9) (v := .agg #[.int .i64 U, .int .i64 F, .string T]) rfl (by kernel_rfl) (by kernel_rfl) (by kernel_rfl) (fun _ _ _ h => h) (Or.inl ⟨by rfl, ?_⟩) (by assumption) ?_
              · intro x hSx; subst hSx; go_simp
              try simp only [Act.put, List.setIfInBounds_toArray, List.set_cons_zero, List.set_cons_succ]
              refine takeL (i := 10) (v := .bool false) rfl (by kernel_rfl) (by kernel_rfl) (by kernel_rfl) (fun _ _ _ h => h) (Or.inl ⟨by rfl, ?_⟩) (by assumption) ?_
              · intro x hSx; subst hSx; go_simp
              try simp only [Act.put, List.setIfInBounds_toArray, List.set_cons_zero, List.set_cons_succ]
              refine wpAnyH_done (by kernel_rfl) ?_ _
              go_wp2
              exact ⟨⟨k + 1, by omega, by go_num, fun j m m' hj hj' hjk => by
                by_cases c : j = k
                · subst c; have h1 := HG.out; have h2 := HG'.out; rw [hj] at h1; rw [hj'] at h2; cases h1; cases h2; rfl
                · exact HU2.out j m m' hj hj' (by omega), bR⟩, by first | omega | (simp [intOf]; omega)⟩
            · have HE : Hid (D = false) := by
                rw [← HD.out]
                exact sameS_part HX.out HY.out (fun e => hsame (by
                  have h1 := HG.out; have h2 := HG'.out
                  rw [e, h2] at h1; cases h1; exact ⟨rfl, rfl, rfl⟩))
              have HNE := Lib.hid hsame
              clear hsame
              go_wp2_with fail
              refine wp_region_held_drew (S := fun x => wr.drew = x) (by kernel_rfl) rfl (fun hHeld => ?_)
              refine takeL (i := 0) (v := .pointer (some ⟨g6, 4, none⟩)) rfl (by kernel_rfl) (by kernel_rfl) (by kernel_rfl) (fun _ _ _ h => h) (Or.inl ⟨by rfl, ?_⟩) (by assumption) ?_
              · intro x hSx; subst hSx; go_simp
              try simp only [Act.put, List.setIfInBounds_toArray, List.set_cons_zero, List.set_cons_succ]
              refine takeL (i := 1) (v := .slice (some ⟨ga, oa, none⟩) n1 c1) rfl (by kernel_rfl) (by kernel_rfl) (by kernel_rfl) (fun _ _ _ h => h) (Or.inl ⟨by rfl, ?_⟩) (by assumption) ?_
              · intro x hSx; subst hSx; go_simp
              try simp only [Act.put, List.setIfInBounds_toArray, List.set_cons_zero, List.set_cons_succ]
              refine takeL (i := 2) (v := .int .i64 (k : Int)) rfl (by kernel_rfl) (by kernel_rfl) (by kernel_rfl) (fun _ _ _ h => h) (Or.inl ⟨by rfl, ?_⟩) (by assumption) ?_
              · intro x hSx; subst hSx; go_simp
              try simp only [Act.put, List.setIfInBounds_toArray, List.set_cons_zero, List.set_cons_succ]
              refine takeL (i := 3) (v := .pointer (some ⟨ga, oa + k * 3, none⟩)) rfl (by kernel_rfl) (by kernel_rfl) (by kernel_rfl) (fun _ _ _ h => h) (Or.inl ⟨by rfl, ?_⟩) (by assumption) ?_
              · intro x hSx; subst hSx; go_simp
              try simp only [Act.put, List.setIfInBounds_toArray, List.set_cons_zero, List.set_cons_succ]
              refine takeL (i := 4) (v := .agg #[.int .i64 U, .int .i64 F, .string T]) rfl (by kernel_rfl) (by kernel_rfl) (by kernel_rfl) (fun _ _ _ h => h) (Or.inl ⟨by rfl, ?_⟩) (by assumption) ?_
              · intro x hSx; subst hSx; go_simp
              try simp only [Act.put, List.setIfInBounds_toArray, List.set_cons_zero, List.set_cons_succ]
              refine takeL (i := 5) (v := .pointer (some ⟨g7, 4, none⟩)) rfl (by kernel_rfl) (by kernel_rfl) (by kernel_rfl) (fun _ _ _ h => h) (Or.inl ⟨by rfl, ?_⟩) (by assumption) ?_
              · intro x hSx; subst hSx; go_simp
              try simp only [Act.put, List.setIfInBounds_toArray, List.set_cons_zero, List.set_cons_succ]
              refine takeL (i := 6) (v := .slice (some ⟨gb, ob, none⟩) n1 c2) rfl (by kernel_rfl) (by kernel_rfl) (by kernel_rfl) (fun _ _ _ h => h) (Or.inl ⟨by rfl, ?_⟩) (by assumption) ?_
              · intro x hSx; subst hSx; go_simp
              try simp only [Act.put, List.setIfInBounds_toArray, List.set_cons_zero, List.set_cons_succ]
              refine takeL (i := 7) (v := .int .i64 (k : Int)) rfl (by kernel_rfl) (by kernel_rfl) (by kernel_rfl) (fun _ _ _ h => h) (Or.inl ⟨by rfl, ?_⟩) (by assumption) ?_
              · intro x hSx; subst hSx; go_simp
              try simp only [Act.put, List.setIfInBounds_toArray, List.set_cons_zero, List.set_cons_succ]
              refine takeL (i := 8) (v := .pointer (some ⟨gb, ob + k * 3, none⟩)) rfl (by kernel_rfl) (by kernel_rfl) (by kernel_rfl) (fun _ _ _ h => h) (Or.inl ⟨by rfl, ?_⟩) (by assumption) ?_
              · intro x hSx; subst hSx; go_simp
              try simp only [Act.put, List.setIfInBounds_toArray, List.set_cons_zero, List.set_cons_succ]
              refine takeL (i := 9) (v := .agg #[.int .i64 U', .int .i64 F', .string T']) rfl (by kernel_rfl) (by kernel_rfl) (by kernel_rfl) (fun _ _ _ h => h) (Or.inl ⟨by rfl, ?_⟩) (by assumption) ?_
              · intro x hSx; subst hSx; go_simp
              try simp only [Act.put, List.setIfInBounds_toArray, List.set_cons_zero, List.set_cons_succ]
              refine takeL (i := 10) (v := .bool true) rfl (by kernel_rfl) (by kernel_rfl) (by kernel_rfl) (fun _ _ _ h => h) (Or.inl ⟨by rfl, ?_⟩) (by assumption) ?_
              · intro x hSx; subst hSx; go_simp; exact fun h1 h2 h3 => HNE.out ⟨h1, h2, (ba_same' _ _).1 h3⟩
              try simp only [Act.put, List.setIfInBounds_toArray, List.set_cons_zero, List.set_cons_succ]
              refine wpAnyH_done (by kernel_rfl) ?_ _
              go_wp2
              go_ret
              exact ⟨by rw [HE.out]; rfl, bD⟩
          · go_wp2
            go_roundw
            case rel => exact ⟨i + 1, by omega, by go_num, fun j u v h1 h2 hj => by
              by_cases c : j = i
              · subst c
                have e1 := HX.out; have e2 := HY.out; rw [h1] at e1; rw [h2] at e2; cases e1; cases e2
                exact HSM.out (fun q m m' h3 h4 => HU2.out q m m' h3 h4 (by have := (List.getElem?_eq_some_iff.1 h3).1; have := HM0.out; omega))
              · exact HU.out j u v h1 h2 (by omega), HB2.out.trans (hb.mono HB2.out.size)⟩
            case measure => simp [intOf]; omega
      · go_wp2
        go_ret
        refine ⟨?_, BW.out.trans (hb.mono BW.out.size)⟩
        rw [← HD.out, sameS_all (HN.out.trans HM.out.symm) (fun j x y h1 h2 => HU.out j x y h1 h2 (by have := (List.getElem?_eq_some_iff.1 h1).1; have := HN.out; omega))]; rfl
  · have b1 : Below w.heap.size w ((w.alloc (.cells #[.slice ad ps.length cap] 33)).alloc (.cells #[.slice ad2 qs.length cap2] 33)) := ((Below.refl _ _).alloc (Nat.le_refl _) _).alloc (by simp) _
    have hne : ¬ ((ps.length : Int) = (qs.length : Int)) := by omega
    go_enter Try.func15, Try.ntmps15
    go_wp2
    go_ret
    exact ⟨by rw [← HD.out, sameS_len hlen]; rfl, b1⟩

end Go.Proofs.Ythlbokfajiahpac
