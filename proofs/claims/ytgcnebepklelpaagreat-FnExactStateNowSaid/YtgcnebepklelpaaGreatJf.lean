/- Texts of our own, joined. -/
import Derived.Test.YtgcnebepklelpaaGreatJc
import Derived.Test.YtgcnebepklelpaaGreatJe
import Derived.Lib.Hide
import Derived.Test.YtgcnebepklelpaaGreatJa
/- How segments lie in memory: a row of segments, each with a row of items of its own. -/
namespace Go.Proofs.YtgcnebepklelpaaGreat
open Go.RowKit

structure Sg where
  no : Int
  gen : Int
  ende : Int
  items : List Itm

structure SgH where
  no : Int
  gen : Int
  ende : Int
  a : Option Addr
  n : Nat
  c : Nat
def SgH.mv (h : SgH) : Value := .slice h.a h.n h.c

def sgE : Enc SgH where
  ty := 80
  sty := 40
  sz := 4
  bytes := 48
  zero := .agg #[.int .i64 0, .int .i64 0, .int .i64 0, .slice none 0 0]
  f := fun x => [.int .i64 x.no, .int .i64 x.gen, .int .i64 x.ende, .slice x.a x.n x.c]
  len := fun _ => rfl
  pos := by decide
  one := fun _ u hu => by simp at hu; rcases hu with rfl | rfl | rfl | rfl <;> rfl
  und := Tryz.underlying40
  info := by kernel_rfl
  zc := rfl
  z0 := ⟨0, 0, 0, none, 0, 0⟩
  zf := rfl

structure SgO (B : Nat) (w : World) (v : Value) (bs : List Sg) (hs : List SgH) : Prop where
  row : RBuf sgE B w w v hs
  len : hs.length = bs.length
  at' : ∀ (j : Nat) (h : SgH) (b : Sg), hs[j]? = some h → bs[j]? = some b → (h.no = b.no ∧ h.gen = b.gen ∧ h.ende = b.ende) ∧ RBuf itE B w w h.mv b.items
  far : ∀ (j : Nat) (h : SgH), hs[j]? = some h → ∀ k, h.mv.ownBlock = some k → v.ownBlock ≠ some k
  apart : ∀ (i j : Nat) (h h' : SgH), hs[i]? = some h → hs[j]? = some h' → i ≠ j → ∀ k, h.mv.ownBlock = some k → h'.mv.ownBlock ≠ some k

theorem RBuf.hereG {α : Type} {E : Enc α} {B : Nat} {w0 w w' : World} {v : Value} {l : List α} (h : RBuf E B w0 w v l) (hb : Below w.heap.size w w') : RBuf E B w' w' v l := (h.later hb).here
theorem SgO.later {B : Nat} {w w' : World} {v : Value} {bs : List Sg} {hs : List SgH} (h : SgO B w v bs hs) (hb : Below w.heap.size w w') : SgO B w' v bs hs :=
  ⟨h.row.hereG hb, h.len, fun j x b h1 h2 => ⟨(h.at' j x b h1 h2).1, (h.at' j x b h1 h2).2.hereG hb⟩, h.far, h.apart⟩
theorem SgO.nil (w : World) : SgO w.heap.size w (.slice none 0 0) [] [] :=
  ⟨RBuf.nil sgE w, rfl, fun j h b h1 => by simp at h1, fun j h h1 => by simp at h1, fun i j h h' h1 => by simp at h1⟩
theorem SgO.lt {B : Nat} {w : World} {v : Value} {bs : List Sg} {hs : List SgH} (h : SgO B w v bs hs) {j : Nat} {x : SgH} (hj : hs[j]? = some x) {k : Nat} (hk : x.mv.ownBlock = some k) : k < w.heap.size := by
  have hl : j < hs.length := (List.getElem?_eq_some_iff.1 hj).1
  have hb : bs[j]? = some (bs[j]'(by rw [← h.len]; exact hl)) := List.getElem?_eq_getElem _
  exact ((h.at' j x _ hj hb).2.own.lt k hk).2

theorem SgO.push {B : Nat} {w w' : World} {v v' : Value} {bs : List Sg} {hs : List SgH} (h : SgO B w v bs hs) (b : Sg) (x : SgH)
    (hx : x.no = b.no ∧ x.gen = b.gen ∧ x.ende = b.ende) (hm : RBuf itE B w w x.mv b.items)
    (hv : ∀ k, x.mv.ownBlock = some k → v.ownBlock ≠ some k) (ho : ∀ (j : Nat) (y : SgH), hs[j]? = some y → ∀ k, y.mv.ownBlock = some k → x.mv.ownBlock ≠ some k)
    (hr : RBuf sgE B w' w' v' (hs ++ [x])) (hg : w.grownBy w' v.ownBlock) (ha : v'.ownBlock = v.ownBlock ∨ v'.ownBlock = some w.heap.size) : SgO B w' v' (bs ++ [b]) (hs ++ [x]) := by
  have kept : ∀ (m : Value) (l : List Itm), RBuf itE B w w m l → (∀ k, m.ownBlock = some k → v.ownBlock ≠ some k) → RBuf itE B w' w' m l := fun m l hm hf => by
    refine hm.shift hg ?_
    cases hmb : m.ownBlock with
    | none => exact .inl rfl
    | some k => exact .inr (fun e => hf k hmb e.symm)
  have old : ∀ {j : Nat} {y : SgH}, (hs ++ [x])[j]? = some y → (hs[j]? = some y ∧ j < hs.length) ∨ (j = hs.length ∧ y = x) := fun {j y} hj => by
    by_cases c : j < hs.length
    · rw [List.getElem?_append_left c] at hj
      exact .inl ⟨hj, c⟩
    · rw [List.getElem?_append_right (by omega)] at hj
      have hj0 : j - hs.length = 0 := by
        have := (List.getElem?_eq_some_iff.1 hj).1
        simp at this; omega
      rw [hj0] at hj
      simp at hj
      exact .inr ⟨by omega, hj.symm⟩
  have hvlt : ∀ {k : Nat}, x.mv.ownBlock = some k → k < w.heap.size := fun {k} hk => (hm.own.lt k hk).2
  refine ⟨hr, by simp [h.len], fun j y c h1 h2 => ?_, fun j y h1 k hk => ?_, fun i j y z h1 h2 hij k hk => ?_⟩
  · rcases old h1 with ⟨h3, hl⟩ | ⟨rfl, rfl⟩
    · rw [List.getElem?_append_left (by rw [← h.len]; exact hl)] at h2
      exact ⟨(h.at' j y c h3 h2).1, kept _ _ (h.at' j y c h3 h2).2 (h.far j y h3)⟩
    · rw [List.getElem?_append_right (by rw [h.len]; omega), h.len] at h2
      simp at h2
      subst h2
      exact ⟨hx, kept _ _ hm hv⟩
  · rcases old h1 with ⟨h3, _⟩ | ⟨_, rfl⟩
    · rcases ha with e | e
      · rw [e]; exact h.far j y h3 k hk
      · rw [e]; intro e2; have := h.lt h3 hk; have := Option.some.inj e2; omega
    · rcases ha with e | e
      · rw [e]; exact hv k hk
      · rw [e]; intro e2; have := hvlt hk; have := Option.some.inj e2; omega
  · rcases old h1 with ⟨h3, hl3⟩ | ⟨ei, rfl⟩
    · rcases old h2 with ⟨h4, _⟩ | ⟨_, rfl⟩
      · exact h.apart i j y z h3 h4 hij k hk
      · exact ho i y h3 k hk
    · rcases old h2 with ⟨h4, _⟩ | ⟨ej, _⟩
      · intro e; exact ho j z h4 k e hk
      · omega
theorem SgO.shift {B : Nat} {w w' : World} {v : Value} {bs : List Sg} {hs : List SgH} {r : Option Nat} (h : SgO B w v bs hs) (hg : w.grownBy w' r) (h1 : ∀ k, r = some k → v.ownBlock ≠ some k ∧ ∀ (j : Nat) (x : SgH), hs[j]? = some x → x.mv.ownBlock ≠ some k) : SgO B w' v bs hs := by
  have sh : ∀ {α : Type} {E : Enc α} {m : Value} {l : List α}, RBuf E B w w m l → (∀ k, r = some k → m.ownBlock ≠ some k) → RBuf E B w' w' m l := fun {α E m l} hm hf => by
    refine hm.shift hg ?_
    cases hb : m.ownBlock with
    | none => exact .inl rfl
    | some k => exact .inr (fun e => hf k e.symm hb)
  exact ⟨sh h.row (fun k hk => (h1 k hk).1), h.len, fun j x b e1 e2 => ⟨(h.at' j x b e1 e2).1, sh (h.at' j x b e1 e2).2 (fun k hk => (h1 k hk).2 j x e1)⟩, h.far, h.apart⟩
theorem SgO.where' {B : Nat} {w : World} {v : Value} {bs : List Sg} {hs : List SgH} (h : SgO B w v bs hs) : (∀ k, v.ownBlock = some k → B ≤ k ∧ k < w.heap.size) ∧ ∀ (j : Nat) (x : SgH), hs[j]? = some x → ∀ k, x.mv.ownBlock = some k → B ≤ k ∧ k < w.heap.size := by
  refine ⟨fun k hk => h.row.own.lt k hk, fun j x hj k hk => ?_⟩
  have hl : j < hs.length := (List.getElem?_eq_some_iff.1 hj).1
  have hb : bs[j]? = some (bs[j]'(by rw [← h.len]; exact hl)) := List.getElem?_eq_getElem _
  exact (h.at' j x _ hj hb).2.own.lt k hk
theorem SgO.under {B C : Nat} {w w' : World} {v : Value} {bs : List Sg} {hs : List SgH} (h : SgO B w v bs hs) (hb : Below C w w') (h1 : ∀ k, v.ownBlock = some k → k < C) (h2 : ∀ (j : Nat) (x : SgH), hs[j]? = some x → ∀ k, x.mv.ownBlock = some k → k < C) : SgO B w' v bs hs := by
  have sh : ∀ {α : Type} {E : Enc α} {m : Value} {l : List α}, RBuf E B w w m l → (∀ k, m.ownBlock = some k → k < C) → RBuf E B w' w' m l := fun {α E m l} hm hf => by
    refine ⟨⟨hm.own.1, ?_⟩, Below.refl _ _, Nat.le_trans hm.le hb.size⟩
    rcases hm.own.2 with e | ⟨g, cap, cur, rfl, hg, hh, hrest⟩
    · exact .inl e
    · exact .inr ⟨g, cap, cur, rfl, hg, (hb.block g (hf g rfl)).trans hh, hrest⟩
  exact ⟨sh h.row h1, h.len, fun j x b e1 e2 => ⟨(h.at' j x b e1 e2).1, sh (h.at' j x b e1 e2).2 (h2 j x e1)⟩, h.far, h.apart⟩
theorem SgO.lower {B B0 : Nat} {w : World} {v : Value} {bs : List Sg} {hs : List SgH} (h : SgO B w v bs hs) (hB : B0 ≤ B) : SgO B0 w v bs hs :=
  ⟨h.row.lower hB, h.len, fun j x b h1 h2 => ⟨(h.at' j x b h1 h2).1, (h.at' j x b h1 h2).2.lower hB⟩, h.far, h.apart⟩

end Go.Proofs.YtgcnebepklelpaaGreat

/- The helpers of the exact laws over segments: two alike are alike. -/
namespace Go.Proofs.YtgcnebepklelpaaGreat
open Go.RowKit

def GRd (w : World) (v : Value) (bs : List Sg) : Prop := ∃ hs : List SgH, Rows' sgE w v hs ∧ hs.length = bs.length ∧
  ∀ (j : Nat) (h : SgH) (b : Sg), hs[j]? = some h → bs[j]? = some b → (h.no = b.no ∧ h.gen = b.gen ∧ h.ende = b.ende) ∧ Rows' itE w h.mv b.items
theorem SgO.rd {B : Nat} {w : World} {v : Value} {bs : List Sg} {hs : List SgH} (h : SgO B w v bs hs) : GRd w v bs :=
  ⟨hs, h.row.rows, h.len, fun j x b h1 h2 => ⟨(h.at' j x b h1 h2).1, (h.at' j x b h1 h2).2.rows⟩⟩
theorem GRd.later {w w' : World} {v : Value} {bs : List Sg} (h : GRd w v bs) (hb : Below w.heap.size w w') : GRd w' v bs := by
  obtain ⟨hs, h1, h2, h3⟩ := h
  exact ⟨hs, h1.later hb, h2, fun j x b e1 e2 => ⟨(h3 j x b e1 e2).1, (h3 j x b e1 e2).2.later hb⟩⟩
theorem GRd.segs {w : World} {v : Value} {bs : List Sg} (h : GRd w v bs) : ∃ (ad : Option Addr) (cap : Nat), v = .slice ad bs.length cap ∧ ∀ X, Below w.heap.size w X → ∀ (i : Nat) (b : Sg), bs[i]? = some b → ∃ (g off : Nat) (a : Option Addr) (n c : Nat), ad = some ⟨g, off, none⟩ ∧
    X.cell? ⟨g, off + i * 4, none⟩ = some (.int .i64 b.no) ∧ X.cell? ⟨g, off + i * 4 + 1, none⟩ = some (.int .i64 b.gen) ∧ X.cell? ⟨g, off + i * 4 + 2, none⟩ = some (.int .i64 b.ende) ∧ X.cell? ⟨g, off + i * 4 + 3, none⟩ = some (.slice a n c) ∧ Rows' itE w (.slice a n c) b.items := by
  obtain ⟨hs, h1, h2, h3⟩ := h
  rcases h1.ways with ⟨rfl, a, c, rfl⟩ | ⟨hne, g, off, c, rfl, hc, hg, hcl⟩
  · have : bs = [] := by rw [← List.length_eq_zero_iff, ← h2]; rfl
    subst this
    exact ⟨a, c, rfl, fun X _ i b hi => by cases hi⟩
  · refine ⟨_, c, by rw [h2], fun X hb i b hi => ?_⟩
    have hl : i < hs.length := by rw [h2]; exact (List.getElem?_eq_some_iff.1 hi).1
    have hx : hs[i]? = some hs[i] := List.getElem?_eq_getElem hl
    obtain ⟨⟨e1, e2, e3⟩, hm⟩ := h3 i _ b hx hi
    have hk : ∀ k u, (sgE.f hs[i])[k]? = some u → X.cell? ⟨g, off + i * 4 + k, none⟩ = some u := fun k u hu => (hb.cell (p := ⟨g, off + i * 4 + k, none⟩) hg).trans (hcl i _ hx k u hu)
    refine ⟨g, off, hs[i].a, hs[i].n, hs[i].c, rfl, ?_, ?_, ?_, hk 3 _ rfl, hm⟩
    · rw [← e1]; exact hk 0 _ rfl
    · rw [← e2]; exact hk 1 _ rfl
    · rw [← e3]; exact hk 2 _ rfl

set_option maxRecDepth 100000 in
set_option maxHeartbeats 1000000 in
theorem eqSeg_same (b : Sg) (a1 a2 : Option Addr) (n1 n2 c1 c2 : Nat) (w : World) (ha : Rows' itE w (.slice a1 n1 c1) b.items) (hb : Rows' itE w (.slice a2 n2 c2) b.items) (hl : b.items.length ≤ 1099511627776) :
    Calls Tryz.prog 74 #[.agg #[.int .i64 b.no, .int .i64 b.gen, .int .i64 b.ende, .slice a1 n1 c1], .agg #[.int .i64 b.no, .int .i64 b.gen, .int .i64 b.ende, .slice a2 n2 c2]] w fun e w' => e = .returned (.bool true) ∧ Below w.heap.size w w' := by
  have b1 : Below w.heap.size w ((w.alloc (.cells #[.int .i64 b.no, .int .i64 b.gen, .int .i64 b.ende, .slice a1 n1 c1] 80)).alloc (.cells #[.int .i64 b.no, .int .i64 b.gen, .int .i64 b.ende, .slice a2 n2 c2] 80)) := ((Below.refl _ _).alloc (Nat.le_refl _) _).alloc (by simp) _
  have HE := Lib.hid (fun wx (hx : Below w.heap.size w wx) => eqItemS_same b.items _ _ wx (ha.later hx) (hb.later hx) hl)
  clear ha hb
  go_enter Tryz.func74, Tryz.ntmps74
  go_wp2_with (go_at_call 103; refine (HE.out _ b1).mono ?_; rintro e w1 ⟨rfl, k1⟩)
  go_ret
  exact ⟨rfl, b1.trans (k1.mono b1.size)⟩

set_option maxRecDepth 100000 in
set_option maxHeartbeats 2000000 in
theorem eqSegS_same (bs : List Sg) (va vb : Value) (w : World) (ha : GRd w va bs) (hb : GRd w vb bs) (hl : bs.length ≤ 1099511627776) (hm : ∀ b ∈ bs, b.items.length ≤ 1099511627776) :
    Calls Tryz.prog 47 #[va, vb] w fun e w' => e = .returned (.bool true) ∧ Below w.heap.size w w' := by
  obtain ⟨ad, cap, rfl, hrowa⟩ := ha.segs
  obtain ⟨ad2, cap2, rfl, hrowb⟩ := hb.segs
  have HA := Lib.hid hrowa
  have HB := Lib.hid hrowb
  have HM := Lib.hid hm
  clear ha hb hrowa hrowb hm
  go_enter Tryz.func47, Tryz.ntmps47
  go_wp2
  go_loopw [5] (fun iv wr => ∃ i : Nat, i ≤ bs.length ∧ iv = .int .i64 (i : Int) ∧ Below w.heap.size w wr) (fun iv _ => bs.length - (intOf iv).toNat)
  case atStart => exact ⟨0, by omega, rfl, Below.refl _ _⟩
  case round =>
    obtain ⟨i, hi, rfl, hbel⟩ := hrel
    by_cases hlt : i < bs.length
    · have hg : bs[i]? = some bs[i] := List.getElem?_eq_getElem hlt
      have hbd : Below w.heap.size w wr.drew := hbel.drew
      obtain ⟨ga, oa, a1, n1, c1, rfl, p0, p1, p2, p3, ra⟩ := HA.out _ hbd i _ hg
      obtain ⟨gb, ob, a2, n2, c2, rfl, q0, q1, q2, q3, rb⟩ := HB.out _ hbd i _ hg
      have hml := HM.out bs[i] (List.getElem_mem hlt)
      have HS : Hid (∀ X, Below wr.drew.heap.size wr.drew X → X.cell? ⟨ga, oa + i * 4, none⟩ = some (.int .i64 bs[i].no) ∧ X.cell? ⟨ga, oa + i * 4 + 1, none⟩ = some (.int .i64 bs[i].gen) ∧ X.cell? ⟨ga, oa + i * 4 + 2, none⟩ = some (.int .i64 bs[i].ende) ∧ X.cell? ⟨ga, oa + i * 4 + 3, none⟩ = some (.slice a1 n1 c1) ∧
          X.cell? ⟨gb, ob + i * 4, none⟩ = some (.int .i64 bs[i].no) ∧ X.cell? ⟨gb, ob + i * 4 + 1, none⟩ = some (.int .i64 bs[i].gen) ∧ X.cell? ⟨gb, ob + i * 4 + 2, none⟩ = some (.int .i64 bs[i].ende) ∧ X.cell? ⟨gb, ob + i * 4 + 3, none⟩ = some (.slice a2 n2 c2)) := by
        intro X hX
        have cc : ∀ {g o : Nat} {u : Value}, wr.drew.cell? ⟨g, o, none⟩ = some u → X.cell? ⟨g, o, none⟩ = some u := fun {g o u} h => (hX.cell (p := ⟨g, o, none⟩) (World.block_lt_of_cell? _ _ h)).trans h
        exact ⟨cc p0, cc p1, cc p2, cc p3, cc q0, cc q1, cc q2, cc q3⟩
      have HE := Lib.hid (fun wx (hx : Below w.heap.size w wx) => eqSeg_same bs[i] a1 a2 n1 n2 c1 c2 wx (ra.later hx) (rb.later hx) hml)
      generalize bs[i] = b at *
      have hi0 : (0 : Int) ≤ (i : Int) := by omega
      have hi1 : (i : Int) < (bs.length : Int) := by omega
      clear hg ra rb hml
      go_wp2
      go_region_held3 (fun X => X.cell? ⟨ga, oa + i * 4, none⟩ = some (.int .i64 b.no) ∧ X.cell? ⟨ga, oa + i * 4 + 1, none⟩ = some (.int .i64 b.gen) ∧ X.cell? ⟨ga, oa + i * 4 + 2, none⟩ = some (.int .i64 b.ende) ∧ X.cell? ⟨ga, oa + i * 4 + 3, none⟩ = some (.slice a1 n1 c1) ∧
          X.cell? ⟨gb, ob + i * 4, none⟩ = some (.int .i64 b.no) ∧ X.cell? ⟨gb, ob + i * 4 + 1, none⟩ = some (.int .i64 b.gen) ∧ X.cell? ⟨gb, ob + i * 4 + 2, none⟩ = some (.int .i64 b.ende) ∧ X.cell? ⟨gb, ob + i * 4 + 3, none⟩ = some (.slice a2 n2 c2))
        (first | exact HS.out _ (Below.refl _ _) | exact HS.out _ hb1)
        (first | (go_at_call 74; refine (HE.out _ hbd).mono ?_; rintro e w1 ⟨rfl, hb1⟩))
      all_goals
        go_wp2
        go_roundw
        case rel => exact ⟨i + 1, by omega, by go_num, hbd.trans (hb1.mono hbd.size)⟩
        case measure => simp [intOf]; omega
    · go_wp2
      go_ret
      exact ⟨rfl, hbel⟩

end Go.Proofs.YtgcnebepklelpaaGreat

/- The helpers of the exact laws over segments: each is marked, and the marks are held. -/
namespace Go.Proofs.YtgcnebepklelpaaGreat
open Go.RowKit

def markG (k : Nat) (b : Sg) : Sg := ⟨((k : Nat) : Int), ((k + 1 : Nat) : Int), ((k + 2 : Nat) : Int), marksI (k + 3) b.items.length⟩
def kG (k : Nat) (b : Sg) : Nat := k + 3 + 9 * b.items.length
def marksG : Nat → List Sg → List Sg
  | _, [] => []
  | k, b :: bs => markG k b :: marksG (kG k b) bs
def kF : Nat → List Sg → Nat
  | k, [] => k
  | k, b :: bs => kF (kG k b) bs
theorem marksG_length : ∀ (k : Nat) (bs : List Sg), (marksG k bs).length = bs.length
  | _, [] => rfl
  | k, b :: bs => by simp [marksG, marksG_length (kG k b) bs]
theorem kF_le : ∀ (k : Nat) (bs : List Sg), k ≤ kF k bs
  | _, [] => Nat.le_refl _
  | k, b :: bs => by have := kF_le (kG k b) bs; unfold kF; unfold kG at *; omega
theorem kF_take : ∀ (k : Nat) (bs : List Sg) (i : Nat) (b : Sg), bs[i]? = some b → kF k (bs.take (i + 1)) = kG (kF k (bs.take i)) b
  | _, [], i, b, h => by cases h
  | k, c :: bs, 0, b, h => by cases h; rfl
  | k, c :: bs, i + 1, b, h => by
    show kF (kG k c) (bs.take (i + 1)) = kG (kF (kG k c) (bs.take i)) b
    exact kF_take (kG k c) bs i b h
theorem kF_take_le (k : Nat) (bs : List Sg) : ∀ i, kF k (bs.take i) ≤ kF k bs := by
  induction bs generalizing k with
  | nil => intro i; simp [kF]
  | cons b bs ih =>
    intro i
    cases i with
    | zero => exact kF_le k (b :: bs)
    | succ i => exact ih (kG k b) i
theorem marksG_at : ∀ (k : Nat) (bs : List Sg) (i : Nat) (b : Sg), bs[i]? = some b → (marksG k bs)[i]? = some (markG (kF k (bs.take i)) b)
  | _, [], i, b, h => by cases h
  | k, c :: bs, 0, b, h => by cases h; rfl
  | k, c :: bs, i + 1, b, h => by
    show (marksG (kG k c) bs)[i]? = some (markG (kF (kG k c) (bs.take i)) b)
    exact marksG_at (kG k c) bs i b h
def putG (k : Nat) (bs : List Sg) (i : Nat) : List Sg := (marksG k bs).take i ++ bs.drop i
theorem putG_zero (k : Nat) (bs : List Sg) : putG k bs 0 = bs := by simp [putG]
theorem putG_all (k : Nat) (bs : List Sg) : putG k bs bs.length = marksG k bs := by
  unfold putG
  rw [List.take_of_length_le (by rw [marksG_length]; exact Nat.le_refl _), List.drop_length, List.append_nil]
theorem putG_length (k : Nat) (bs : List Sg) (i : Nat) (h : i ≤ bs.length) : (putG k bs i).length = bs.length := by
  unfold putG
  rw [List.length_append, List.length_take, List.length_drop, marksG_length]; omega
theorem putG_at (k : Nat) (bs : List Sg) (i : Nat) (b : Sg) (h : bs[i]? = some b) : (putG k bs i)[i]? = some b := by
  have hl : i < bs.length := (List.getElem?_eq_some_iff.1 h).1
  unfold putG
  rw [List.getElem?_append_right (by rw [List.length_take, marksG_length]; omega), List.length_take, marksG_length, Nat.min_eq_left (Nat.le_of_lt hl), Nat.sub_self, List.getElem?_drop, Nat.add_zero]
  exact h
theorem putG_set (k : Nat) (bs : List Sg) (i : Nat) (b : Sg) (h : bs[i]? = some b) : (putG k bs i).set i (markG (kF k (bs.take i)) b) = putG k bs (i + 1) := by
  have hl : i < bs.length := (List.getElem?_eq_some_iff.1 h).1
  unfold putG
  rw [List.set_append_right _ _ (by rw [List.length_take, marksG_length]; omega)]
  rw [List.length_take, marksG_length, Nat.min_eq_left (Nat.le_of_lt hl), Nat.sub_self, List.drop_eq_getElem_cons hl, List.set_cons_zero, List.take_add_one, marksG_at k bs i b h, List.append_assoc]
  rfl
theorem set_waysG {α : Type} {l : List α} {i j : Nat} {y z : α} (h : (l.set i y)[j]? = some z) : (j = i ∧ z = y) ∨ (j ≠ i ∧ l[j]? = some z) := by
  by_cases c : j = i
  · subst c
    have hl : j < l.length := by have := (List.getElem?_eq_some_iff.1 h).1; simpa using this
    rw [List.getElem?_set_self hl] at h
    exact .inl ⟨rfl, (Option.some.inj h).symm⟩
  · rw [List.getElem?_set_ne (fun e => c e.symm)] at h
    exact .inr ⟨c, h⟩
theorem SgO.store {B : Nat} {w : World} {g n cap : Nat} {bs : List Sg} {hs : List SgH} (h : SgO B w (.slice (some ⟨g, 0, none⟩) n cap) bs hs) (hn : n = hs.length) {i : Nat} {x : SgH} (hx : hs[i]? = some x) {b : Sg} (hb : bs[i]? = some b)
    (c : Nat) (hc : c < 4) (u : Value) (x' : SgH) (hf : sgE.f x' = (sgE.f x).set c u) (hmv : x'.mv = x.mv) (b' : Sg) (hb' : x'.no = b'.no ∧ x'.gen = b'.gen ∧ x'.ende = b'.ende) (hm : b'.items = b.items) :
    SgO B (w.setCell ⟨g, i * 4 + c, none⟩ u) (.slice (some ⟨g, 0, none⟩) n cap) (bs.set i b') (hs.set i x') := by
  subst hn
  have hg := grownBy_store w g (i * 4 + c) u
  have kept : ∀ (m : Value) (l : List Itm), RBuf itE B w w m l → (∀ k, m.ownBlock = some k → (Value.slice (some ⟨g, 0, none⟩) hs.length cap).ownBlock ≠ some k) → RBuf itE B (w.setCell ⟨g, i * 4 + c, none⟩ u) (w.setCell ⟨g, i * 4 + c, none⟩ u) m l := fun m l hm hf => by
    refine hm.shift hg ?_
    cases hmb : m.ownBlock with
    | none => exact .inl rfl
    | some k => exact .inr (fun e => hf k hmb e.symm)
  have hmvs : ∀ {j : Nat} {y : SgH}, (hs.set i x')[j]? = some y → ∃ z, hs[j]? = some z ∧ y.mv = z.mv := fun {j y} hj => by
    rcases set_waysG hj with ⟨rfl, rfl⟩ | ⟨_, hj⟩
    · exact ⟨x, hx, hmv⟩
    · exact ⟨y, hj, rfl⟩
  refine ⟨(h.row.stored i x x' hx c hc u hf).here, by simp [h.len], fun j y d h1 h2 => ?_, fun j y h1 k hk => ?_, fun j k y z h1 h2 hjk q hq => ?_⟩
  · rcases set_waysG h1 with ⟨rfl, rfl⟩ | ⟨hne, h1⟩
    · rcases set_waysG h2 with ⟨_, rfl⟩ | ⟨hne, _⟩
      · refine ⟨hb', ?_⟩
        rw [hmv, hm]
        exact kept _ _ (h.at' j x b hx hb).2 (h.far j x hx)
      · exact absurd rfl hne
    · rcases set_waysG h2 with ⟨e, _⟩ | ⟨_, h2⟩
      · exact absurd e hne
      · exact ⟨(h.at' j y d h1 h2).1, kept _ _ (h.at' j y d h1 h2).2 (h.far j y h1)⟩
  · obtain ⟨z, hz, e⟩ := hmvs h1
    rw [e] at hk
    exact h.far j z hz k hk
  · obtain ⟨y0, hy0, e1⟩ := hmvs h1
    obtain ⟨z0, hz0, e2⟩ := hmvs h2
    rw [e1] at hq
    rw [e2]
    exact h.apart j k y0 z0 hy0 hz0 hjk q hq
theorem SgO.items {B : Nat} {w w' : World} {v : Value} {bs : List Sg} {hs : List SgH} (h : SgO B w v bs hs) {i : Nat} {x : SgH} (hx : hs[i]? = some x) {b : Sg} (hb : bs[i]? = some b) (ms : List Itm) (hr : RBuf itE B w' w' x.mv ms) (hg : w.grownBy w' x.mv.ownBlock) :
    SgO B w' v (bs.set i ⟨b.no, b.gen, b.ende, ms⟩) hs := by
  refine ⟨h.row.shift hg ?_, by simp [h.len], fun j y d h1 h2 => ?_, h.far, h.apart⟩
  · cases hv : x.mv.ownBlock with
    | none =>
      cases hv2 : v.ownBlock with
      | none => exact .inl rfl
      | some k => exact .inr (fun e => by cases e)
    | some k => exact .inr (fun e => h.far i x hx k hv e)
  · rcases set_waysG h2 with ⟨rfl, rfl⟩ | ⟨hne, h2⟩
    · rw [hx] at h1
      cases h1
      exact ⟨(h.at' j x b hx hb).1, hr⟩
    · refine ⟨(h.at' j y d h1 h2).1, (h.at' j y d h1 h2).2.shift hg ?_⟩
      cases hy : y.mv.ownBlock with
      | none => exact .inl rfl
      | some k => exact .inr (fun e => h.apart j i y x h1 hx hne k hy e.symm)
theorem SgO.cellAt {B : Nat} {w : World} {g n cap : Nat} {bs : List Sg} {hs : List SgH} (h : SgO B w (.slice (some ⟨g, 0, none⟩) n cap) bs hs) {i : Nat} {y : SgH} (hy : hs[i]? = some y) (hl : n = hs.length) (q : Nat) (u : Value) (hu : (sgE.f y)[q]? = some u) : w.cell? ⟨g, i * 4 + q, none⟩ = some u ∧ w.frozen? ⟨g, i * 4 + q, none⟩ = false := by
  subst hl
  exact ⟨h.row.cell rfl i y hy q u hu, h.row.loose _⟩

set_option maxRecDepth 100000 in
set_option maxHeartbeats 4000000 in
theorem markSegS_any (bs : List Sg) (v : Value) (k B : Nat) (hs : List SgH) (w : World) (h : SgO B w v bs hs) (_hk : 1 ≤ k) (hk2 : kF k bs ≤ 1099511627776) (hl : bs.length ≤ 1099511627776) :
    Calls Tryz.prog 49 #[v, .int .i64 (k : Int)] w fun e w' => e = .returned (.int .i64 (kF k bs : Int)) ∧ (∃ hs', SgO B w' v (marksG k bs) hs' ∧ ∀ (j : Nat) (y : SgH), hs'[j]? = some y → ∃ x, hs[j]? = some x ∧ y.mv = x.mv) ∧ Below B w w' ∧ (∀ q, q < w.heap.size → v.ownBlock ≠ some q → (∀ (j : Nat) (x : SgH), hs[j]? = some x → x.mv.ownBlock ≠ some q) → w'.heap[q]? = w.heap[q]?) := by
  have hB := h.row.le
  have hl0 := h.len
  rcases h.row.own.2 with ⟨rfl, h0⟩ | ⟨g, cap, cur, rfl, hg, hh, hnc, hcp, hcs, htake⟩
  · obtain rfl := List.length_eq_zero_iff.1 h0
    obtain rfl := List.length_eq_zero_iff.1 hl0.symm
    go_enter Tryz.func49, Tryz.ntmps49
    go_wp2
    go_loop [1, 5] (fun kv iv => kv = .int .i64 (k : Int) ∧ iv = .int .i64 0) (fun _ _ => 0)
    case atStart => exact ⟨rfl, rfl⟩
    case round =>
      obtain ⟨rfl, rfl⟩ := hrel
      go_wp2
      go_ret
      exact ⟨rfl, ⟨[], h, fun j y hy => by cases hy⟩, Below.refl _ _, by intros; rfl⟩
  · clear hh hcs htake hcp
    rw [hl0] at h ⊢
    go_enter Tryz.func49, Tryz.ntmps49
    go_wp2
    go_loopw [1, 5] (fun kv iv wr => ∃ (i : Nat) (hs' : List SgH), i ≤ bs.length ∧ iv = .int .i64 (i : Int) ∧ kv = .int .i64 ((kF k (bs.take i) : Nat) : Int) ∧ SgO B wr (.slice (some ⟨g, 0, none⟩) bs.length cap) (putG k bs i) hs' ∧ Below B w wr ∧ (∀ (j : Nat) (y : SgH), hs'[j]? = some y → ∃ x, hs[j]? = some x ∧ y.mv = x.mv) ∧ ∀ q, q < w.heap.size → q ≠ g → (∀ (j : Nat) (x : SgH), hs[j]? = some x → x.mv.ownBlock ≠ some q) → wr.heap[q]? = w.heap[q]?) (fun _ iv _ => bs.length - (intOf iv).toNat)
    case atStart => exact ⟨0, hs, by omega, rfl, rfl, by rw [putG_zero]; exact h, Below.refl _ _, fun j y hy => ⟨y, hy, rfl⟩, fun _ _ _ _ => rfl⟩
    case round =>
      clear h
      obtain ⟨i, hs', hi, rfl, rfl, S, hb, hmv, hkp⟩ := hrel
      have HMV := Lib.hid hmv
      have HKP := Lib.hid hkp
      clear hmv hkp
      by_cases hlt : i < bs.length
      · have hgb : bs[i]? = some bs[i] := List.getElem?_eq_getElem hlt
        have hpl := putG_length k bs i hi
        have hn : bs.length = hs'.length := by rw [S.len, hpl]
        have hpa := putG_at k bs i _ hgb
        have hx : hs'[i]? = some (hs'[i]'(by omega)) := List.getElem?_eq_getElem (by omega)
        have hset := putG_set k bs i _ hgb
        have hkt := kF_take k bs i _ hgb
        have hkl := kF_take_le k bs (i + 1)
        have hkg := kF_le k (bs.take i)
        generalize bs[i] = b at *
        generalize hs'[i]'(by omega) = x at hx
        obtain ⟨K, hK⟩ : ∃ K, kF k (bs.take i) = K := ⟨_, rfl⟩
        rw [hK] at hset hkt hkg ⊢
        have HK := Lib.hid hkt
        have HSET := Lib.hid hset
        rw [hkt] at hkl
        unfold kG at hkl
        obtain ⟨⟨e1, e2, e3⟩, hmr⟩ := S.at' i x b hx hpa
        clear hset hkt hK hgb
        have hi0 : (0 : Int) ≤ (i : Int) := by omega
        have hi1 : (i : Int) < (bs.length : Int) := by omega
        obtain ⟨xv, xu, xn, xa, xl, xc⟩ := x
        simp only at e1 e2 e3
        have hn1 : ∀ y : SgH, bs.length = (hs'.set i y).length := fun y => by simp; omega
        have hil : i < hs'.length := by omega
        have hip : i < (putG k bs i).length := by omega
        have gx : ∀ y : SgH, (hs'.set i y)[i]? = some y := fun y => List.getElem?_set_self hil
        have gb : ∀ y : Sg, ((putG k bs i).set i y)[i]? = some y := fun y => List.getElem?_set_self hip
        have S1 : SgO B (wr.setCell ⟨g, i * 4, none⟩ (.int .i64 (K : Int))) (.slice (some ⟨g, 0, none⟩) bs.length cap) ((putG k bs i).set i ⟨K, b.gen, b.ende, b.items⟩) (hs'.set i ⟨K, xu, xn, xa, xl, xc⟩) :=
          S.store hn hx hpa 0 (by decide) (.int .i64 (K : Int)) ⟨K, xu, xn, xa, xl, xc⟩ rfl rfl ⟨K, b.gen, b.ende, b.items⟩ ⟨rfl, e2, e3⟩ rfl
        obtain ⟨c0, f0⟩ := S.cellAt hx hn 0 _ rfl
        simp only [Nat.add_zero] at c0 f0
        have HBS : Hid (w.heap.size ≤ wr.heap.size) := hb.size
        have b1 : Below B w (wr.setCell ⟨g, i * 4, none⟩ (.int .i64 (K : Int))) := hb.setCell (p := ⟨g, i * 4, none⟩) hg _
        have G1 : wr.grownBy (wr.setCell ⟨g, i * 4, none⟩ (.int .i64 (K : Int))) (some g) := grownBy_store _ _ _ _
        have HMX : Hid (∃ x0, hs[i]? = some x0 ∧ (⟨xv, xu, xn, xa, xl, xc⟩ : SgH).mv = x0.mv) := HMV.out i _ hx
        clear S hb
        obtain ⟨c1, f1⟩ := S1.cellAt (gx _) (hn1 _) 1 _ rfl
        have S2 := S1.store (hn1 _) (gx _) (gb _) 1 (by decide) (.int .i64 ((K : Int) + 1)) ⟨K, (K : Int) + 1, xn, xa, xl, xc⟩ rfl rfl ⟨K, (K : Int) + 1, b.ende, b.items⟩ ⟨rfl, rfl, e3⟩ rfl
        rw [List.set_set, List.set_set] at S2
        have b2 : Below B w ((wr.setCell ⟨g, i * 4, none⟩ (.int .i64 (K : Int))).setCell ⟨g, i * 4 + 1, none⟩ (.int .i64 ((K : Int) + 1))) := b1.setCell (p := ⟨g, i * 4 + 1, none⟩) hg _
        have G2 := G1.trans (grownBy_store _ g (i * 4 + 1) (.int .i64 ((K : Int) + 1)))
        obtain ⟨c2, f2⟩ := S2.cellAt (gx _) (hn1 _) 2 _ rfl
        have S3 := S2.store (hn1 _) (gx _) (gb _) 2 (by decide) (.int .i64 ((K : Int) + 1 + 1)) ⟨K, (K : Int) + 1, (K : Int) + 1 + 1, xa, xl, xc⟩ rfl rfl ⟨K, (K : Int) + 1, (K : Int) + 1 + 1, b.items⟩ ⟨rfl, rfl, rfl⟩ rfl
        rw [List.set_set, List.set_set] at S3
        have b3 : Below B w (((wr.setCell ⟨g, i * 4, none⟩ (.int .i64 (K : Int))).setCell ⟨g, i * 4 + 1, none⟩ (.int .i64 ((K : Int) + 1))).setCell ⟨g, i * 4 + 2, none⟩ (.int .i64 ((K : Int) + 1 + 1))) := b2.setCell (p := ⟨g, i * 4 + 2, none⟩) hg _
        have G3 := G2.trans (grownBy_store _ g (i * 4 + 2) (.int .i64 ((K : Int) + 1 + 1)))
        obtain ⟨c3, f3⟩ := S3.cellAt (gx _) (hn1 _) 3 _ rfl
        have HGX := Lib.hid gx
        have HGB := Lib.hid gb
        clear hn hpl hil hip hn1 gx gb S1 S2 b1 b2 G1 G2
        go_wp2_with fail
        clear c0 f0 c1 f1 c2 f2 c3 f3
        generalize ((wr.setCell ⟨g, i * 4, none⟩ (.int .i64 (K : Int))).setCell ⟨g, i * 4 + 1, none⟩ (.int .i64 ((K : Int) + 1))).setCell ⟨g, i * 4 + 2, none⟩ (.int .i64 ((K : Int) + 1 + 1)) = X4 at S3 b3 G3 ⊢
        have hK4 : (K : Int) + 1 + 1 + 1 = ((K + 3 : Nat) : Int) := by omega
        rw [hK4]
        have hmr4 := (S3.at' i _ _ (HGX.out _) (HGB.out _)).2
        refine (markItemS_put b.items _ (K + 3) B X4 X4 hmr4 (by omega) (by omega)).mono ?_
        rintro e w5 ⟨rfl, r5, g5⟩
        have S5 := S3.items (HGX.out _) (HGB.out _) _ r5.here g5
        rw [List.set_set] at S5
        have b5 : Below B w w5 := b3.grown g5 (Nat.le_trans hB b3.size) (fun q hq => (hmr4.own.lt q hq).1)
        have HKN : Hid (∀ q, q < w.heap.size → q ≠ g → (∀ (j : Nat) (x : SgH), hs[j]? = some x → x.mv.ownBlock ≠ some q) → w5.heap[q]? = w.heap[q]?) := fun q hq hqg hqm => by
          obtain ⟨x0, hx0, ex⟩ := HMX.out
          have hwr : q < wr.heap.size := Nat.lt_of_lt_of_le hq HBS.out
          have e1 := g5.block q (Nat.lt_of_lt_of_le hwr G3.size) (fun e => hqm i x0 hx0 (by rw [← ex]; exact e.symm))
          have e2 := G3.block q hwr (fun e => hqg (Option.some.inj e))
          exact (e1.trans e2).trans (HKP.out q hq hqg hqm)
        have HMN : Hid (∀ (j : Nat) (y : SgH), (hs'.set i ⟨K, (K : Int) + 1, (K : Int) + 1 + 1, xa, xl, xc⟩)[j]? = some y → ∃ x, hs[j]? = some x ∧ y.mv = x.mv) := fun j y hy => by
          rcases set_waysG hy with ⟨rfl, rfl⟩ | ⟨_, hy⟩
          · exact HMX.out
          · exact HMV.out j y hy
        have hmk : (⟨(K : Int), (K : Int) + 1, (K : Int) + 1 + 1, marksI (K + 3) b.items.length⟩ : Sg) = markG K b := by
          unfold markG
          rw [show (K : Int) + 1 + 1 = ((K + 2 : Nat) : Int) by omega, show (K : Int) + 1 = ((K + 1 : Nat) : Int) by omega]
        rw [hmk, HSET.out] at S5
        have HS5 := Lib.hid S5
        clear S5 S3 r5 g5 b3 hmr4 hmk G3
        go_wp2
        exact ⟨⟨i + 1, _, by omega, by simp, by rw [HK.out]; rfl, HS5.out, b5, HMN.out, HKN.out⟩, by first | omega | (simp [intOf]; omega)⟩
      · have hge : ¬ (i : Int) < (bs.length : Int) := by omega
        have hil : i = bs.length := by omega
        have HE : Hid (kF k bs = kF k (bs.take i) ∧ putG k bs i = marksG k bs) := ⟨by rw [hil, List.take_length], by rw [hil, putG_all]⟩
        rw [HE.out.2] at S
        have HS := Lib.hid S
        clear S
        go_wp2
        go_ret
        exact ⟨by rw [HE.out.1]; rfl, ⟨_, HS.out, HMV.out⟩, hb, fun q hq hqv hqm => HKP.out q hq (fun e => hqv (by rw [e]; rfl)) hqm⟩


end Go.Proofs.YtgcnebepklelpaaGreat

/- Segments that come in: how great they are. -/
namespace Go.Proofs.YtgcnebepklelpaaGreat
open Go.RowKit

set_option maxRecDepth 100000 in
set_option maxHeartbeats 2000000 in
theorem szItemS_sum (l : List Itm) (v : Value) (left : Int) (w : World) (h : Rows' litE w v l) (h0 : 0 ≤ left) (h1 : left ≤ 1048576) (hl : l.length ≤ 9223372036854775807) (hz : ∀ x ∈ l, x.2.user.size ≤ 9223372036854775807 ∧ x.2.name.size ≤ 9223372036854775807 ∧ x.2.text.size ≤ 9223372036854775807) :
    Calls Tryz.prog 79 #[v, .int .i64 left] w fun e w' => (∃ r : Int, e = .returned (.int .i64 r) ∧ (r < 0 ∨ (r ≤ left - (l.length : Int) ∧ ∀ x ∈ l, (x.2.user.size : Int) + x.2.name.size + x.2.text.size ≤ left)) ∧ r ≤ left ∧ -1 ≤ r) ∧ Below w.heap.size w w' := by
  obtain ⟨ad, cap, rfl, hrow⟩ := h.litems
  have HR := Lib.hid hrow
  have HZ := Lib.hid hz
  clear h hrow hz
  by_cases hneg : left - (l.length : Int) < 0
  · go_enter Tryz.func79, Tryz.ntmps79
    go_wp2
    go_ret
    exact ⟨⟨-1, rfl, .inl (by omega), by omega, by omega⟩, Below.refl _ _⟩
  · go_enter Tryz.func79, Tryz.ntmps79
    go_wp2
    go_loopw [1, 5] (fun rv iv wr => ∃ (i : Nat) (r : Int), i ≤ l.length ∧ iv = .int .i64 (i : Int) ∧ rv = .int .i64 r ∧ 0 ≤ r ∧ r ≤ left - (l.length : Int) ∧ (∀ (j : Nat) (x : Itm), l[j]? = some x → j < i → (x.2.user.size : Int) + x.2.name.size + x.2.text.size ≤ left) ∧ Below w.heap.size w wr) (fun _ iv _ => l.length - (intOf iv).toNat)
    case atStart => exact ⟨0, left - (l.length : Int), by omega, rfl, by first | rfl | go_num, by omega, by omega, fun j x _ hj => by omega, Below.refl _ _⟩
    case round =>
      obtain ⟨i, r, hi, rfl, rfl, hr0, hr1, hall, hb⟩ := hrel
      have HA := Lib.hid hall
      clear hall
      by_cases hlt : i < l.length
      · have hgx : l[i]? = some l[i] := List.getElem?_eq_getElem hlt
        have hzx := HZ.out l[i] (List.getElem_mem hlt)
        obtain ⟨ga, oa, rfl, a0, a1, a2, a3, a4, a5, a6, a7, a8⟩ := HR.out _ hb i _ hgx
        generalize l[i] = x at *
        have HX := Lib.hid hgx
        have HS := Lib.hid (fun wx => szItem_any x.1 x.2 r wx hzx.1 hzx.2.1 hzx.2.2 hr0 (by omega))
        obtain ⟨sq, K, V, U, N, FL, US, NM, TX⟩ := x
        unfold itV at HS
        simp only at a0 a1 a2 a3 a4 a5 a6 a7 a8 HS
        have hi0 : (0 : Int) ≤ (i : Int) := by omega
        have hi1 : (i : Int) < (l.length : Int) := by omega
        clear hgx hzx
        go_wp2_with fail
        clear a0 a1 a2 a3 a4 a5 a6 a7 a8
        refine (HS.out _).mono ?_
        rintro e w1 ⟨⟨r1, rfl, hr, hr2, hr3⟩, k1⟩
        have b1 := hb.trans (k1.mono hb.size)
        by_cases hn : r1 < 0
        · go_wp2
          go_ret
          exact ⟨⟨-1, rfl, .inl (by omega), by omega, by omega⟩, b1⟩
        · have HU : Hid (∀ (j : Nat) (x : Itm), l[j]? = some x → j < i + 1 → (x.2.user.size : Int) + x.2.name.size + x.2.text.size ≤ left) := fun j x hj hji => by
            by_cases c : j = i
            · subst c
              have := HX.out
              rw [hj] at this
              cases this
              rcases hr with hr | hr
              · omega
              · simp only; omega
            · exact HA.out j x hj (by omega)
          go_wp2
          exact ⟨⟨i + 1, r1, by omega, by simp, rfl, by omega, by omega, HU.out, b1⟩, by first | omega | (simp [intOf]; omega)⟩
      · have hge : ¬ (i : Int) < (l.length : Int) := by omega
        have HE : Hid (∀ x ∈ l, (x.2.user.size : Int) + x.2.name.size + x.2.text.size ≤ left) := fun x hx => by
          obtain ⟨j, hj, rfl⟩ := List.getElem_of_mem hx
          exact HA.out j _ (List.getElem?_eq_getElem hj) (by omega)
        go_wp2
        go_ret
        exact ⟨⟨r, rfl, .inr ⟨hr1, fun a b hab => HE.out (a, b) hab⟩, by omega, by omega⟩, hb⟩

def lsgE : Enc SgH where
  ty := 106
  sty := 26
  sz := 4
  bytes := 48
  zero := .agg #[.int .i64 0, .int .i64 0, .int .i64 0, .slice none 0 0]
  f := fun x => [.int .i64 x.no, .int .i64 x.gen, .int .i64 x.ende, .slice x.a x.n x.c]
  len := fun _ => rfl
  pos := by decide
  one := fun _ u hu => by simp at hu; rcases hu with rfl | rfl | rfl | rfl <;> rfl
  und := Tryz.underlying26
  info := by kernel_rfl
  zc := rfl
  z0 := ⟨0, 0, 0, none, 0, 0⟩
  zf := rfl
def LGRd (w : World) (v : Value) (bs : List Sg) : Prop := ∃ hs : List SgH, Rows' lsgE w v hs ∧ hs.length = bs.length ∧
  ∀ (j : Nat) (h : SgH) (b : Sg), hs[j]? = some h → bs[j]? = some b → (h.no = b.no ∧ h.gen = b.gen ∧ h.ende = b.ende) ∧ Rows' litE w h.mv b.items
theorem LGRd.later {w w' : World} {v : Value} {bs : List Sg} (h : LGRd w v bs) (hb : Below w.heap.size w w') : LGRd w' v bs := by
  obtain ⟨hs, h1, h2, h3⟩ := h
  exact ⟨hs, h1.later hb, h2, fun j x b e1 e2 => ⟨(h3 j x b e1 e2).1, (h3 j x b e1 e2).2.later hb⟩⟩
theorem LGRd.segs {w : World} {v : Value} {bs : List Sg} (h : LGRd w v bs) : ∃ (ad : Option Addr) (cap : Nat), v = .slice ad bs.length cap ∧ ∀ X, Below w.heap.size w X → ∀ (i : Nat) (b : Sg), bs[i]? = some b → ∃ (g off : Nat) (a : Option Addr) (n c : Nat), ad = some ⟨g, off, none⟩ ∧
    X.cell? ⟨g, off + i * 4, none⟩ = some (.int .i64 b.no) ∧ X.cell? ⟨g, off + i * 4 + 1, none⟩ = some (.int .i64 b.gen) ∧ X.cell? ⟨g, off + i * 4 + 2, none⟩ = some (.int .i64 b.ende) ∧ X.cell? ⟨g, off + i * 4 + 3, none⟩ = some (.slice a n c) ∧ Rows' litE w (.slice a n c) b.items := by
  obtain ⟨hs, h1, h2, h3⟩ := h
  rcases h1.ways with ⟨rfl, a, c, rfl⟩ | ⟨hne, g, off, c, rfl, hc, hg, hcl⟩
  · have : bs = [] := by rw [← List.length_eq_zero_iff, ← h2]; rfl
    subst this
    exact ⟨a, c, rfl, fun X _ i b hi => by cases hi⟩
  · refine ⟨_, c, by rw [h2], fun X hb i b hi => ?_⟩
    have hl : i < hs.length := by rw [h2]; exact (List.getElem?_eq_some_iff.1 hi).1
    have hx : hs[i]? = some hs[i] := List.getElem?_eq_getElem hl
    obtain ⟨⟨e1, e2, e3⟩, hm⟩ := h3 i _ b hx hi
    have hk : ∀ k u, (lsgE.f hs[i])[k]? = some u → X.cell? ⟨g, off + i * 4 + k, none⟩ = some u := fun k u hu => (hb.cell (p := ⟨g, off + i * 4 + k, none⟩) hg).trans (hcl i _ hx k u hu)
    refine ⟨g, off, hs[i].a, hs[i].n, hs[i].c, rfl, ?_, ?_, ?_, hk 3 _ rfl, hm⟩
    · rw [← e1]; exact hk 0 _ rfl
    · rw [← e2]; exact hk 1 _ rfl
    · rw [← e3]; exact hk 2 _ rfl

def sgShort (b : Sg) : Prop := b.items.length ≤ 9223372036854775807 ∧ ∀ x ∈ b.items, x.2.user.size ≤ 9223372036854775807 ∧ x.2.name.size ≤ 9223372036854775807 ∧ x.2.text.size ≤ 9223372036854775807
def sgLean (left : Int) (b : Sg) : Prop := ∀ x ∈ b.items, (x.2.user.size : Int) + x.2.name.size + x.2.text.size ≤ left
theorem sgLean.mono {a b : Int} {s : Sg} (h : sgLean a s) (hab : a ≤ b) : sgLean b s := fun x hx => Int.le_trans (h x hx) hab
def gIts : List Sg → Nat
  | [] => 0
  | b :: bs => b.items.length + gIts bs
theorem gIts_append : ∀ (l m : List Sg), gIts (l ++ m) = gIts l + gIts m
  | [], m => by simp [gIts]
  | x :: l, m => by simp [gIts, gIts_append l m]; omega
theorem gIts_take {l : List Sg} {i : Nat} {b : Sg} (h : l[i]? = some b) : gIts (l.take (i + 1)) = gIts (l.take i) + b.items.length := by
  rw [List.take_add_one, h, gIts_append]; simp [gIts]
theorem gIts_mem : ∀ {l : List Sg} {b : Sg}, b ∈ l → b.items.length ≤ gIts l
  | x :: l, b, h => by
    rcases List.mem_cons.1 h with rfl | h
    · simp [gIts]
    · have := gIts_mem h; simp [gIts]; omega

set_option maxRecDepth 100000 in
set_option maxHeartbeats 2000000 in
theorem szSeg_any (b : Sg) (a : Option Addr) (n c : Nat) (left : Int) (w : World) (h : Rows' litE w (.slice a n c) b.items) (hz : sgShort b) (h0 : 0 ≤ left) (h1 : left ≤ 1048576) :
    Calls Tryz.prog 55 #[.agg #[.int .i64 b.no, .int .i64 b.gen, .int .i64 b.ende, .slice a n c], .int .i64 left] w fun e w' => (∃ r : Int, e = .returned (.int .i64 r) ∧ (r < 0 ∨ (r ≤ left - (b.items.length : Int) ∧ sgLean left b)) ∧ r ≤ left ∧ -1 ≤ r) ∧ Below w.heap.size w w' := by
  obtain ⟨z1, z2⟩ := hz
  have b0 := belNew w (.cells #[.int .i64 b.no, .int .i64 b.gen, .int .i64 b.ende, .slice a n c] 106)
  have HS := Lib.hid (szItemS_sum b.items _ left _ (h.later b0) h0 h1 z1 z2)
  clear h z2
  go_enter Tryz.func55, Tryz.ntmps55
  go_wp2_with fail
  refine HS.out.mono ?_
  rintro e w1 ⟨⟨r1, rfl, hr, hr2, hr3⟩, k1⟩
  have HW := Lib.hid hr
  have b1 := b0.trans (k1.mono b0.size)
  clear hr HS
  by_cases hn : r1 < 0
  · go_wp2
    go_ret
    exact ⟨⟨-1, rfl, .inl (by omega), by omega, by omega⟩, b1⟩
  · go_wp2
    go_ret
    exact ⟨⟨r1, rfl, HW.out, hr2, hr3⟩, b1⟩

set_option maxRecDepth 100000 in
set_option maxHeartbeats 2000000 in
theorem szSegS_any (l : List Sg) (v : Value) (left : Int) (w : World) (h : LGRd w v l) (h0 : 0 ≤ left) (h1 : left ≤ 1048576) (hl : l.length ≤ 9223372036854775807) (hz : ∀ b ∈ l, sgShort b) :
    Calls Tryz.prog 29 #[v, .int .i64 left] w fun e w' => (∃ r : Int, e = .returned (.int .i64 r) ∧ (r < 0 ∨ (((l.length + gIts l : Nat) : Int) ≤ left ∧ ∀ b ∈ l, sgLean left b)) ∧ r ≤ left ∧ -1 ≤ r) ∧ Below w.heap.size w w' := by
  obtain ⟨ad, cap, rfl, hrow⟩ := h.segs
  have HR := Lib.hid hrow
  have HZ := Lib.hid hz
  clear h hrow hz
  by_cases hneg : left - (l.length : Int) < 0
  · go_enter Tryz.func29, Tryz.ntmps29
    go_wp2
    go_ret
    exact ⟨⟨-1, rfl, .inl (by omega), by omega, by omega⟩, Below.refl _ _⟩
  · go_enter Tryz.func29, Tryz.ntmps29
    go_wp2
    go_loopw [1, 5] (fun rv iv wr => ∃ (i : Nat) (r : Int), i ≤ l.length ∧ iv = .int .i64 (i : Int) ∧ rv = .int .i64 r ∧ 0 ≤ r ∧ r ≤ left ∧ Hid (r ≤ left - ((l.length + gIts (l.take i) : Nat) : Int) ∧ ∀ (j : Nat) (b : Sg), l[j]? = some b → j < i → sgLean left b) ∧ Below w.heap.size w wr) (fun _ iv _ => l.length - (intOf iv).toNat)
    case atStart => exact ⟨0, left - (l.length : Int), by omega, rfl, by first | rfl | go_num, by omega, by omega, ⟨by simp [gIts], fun j b _ hj => by omega⟩, Below.refl _ _⟩
    case round =>
      obtain ⟨i, r, hi, rfl, rfl, hr0, hr1, HRE, hb⟩ := hrel
      by_cases hlt : i < l.length
      · have hgx : l[i]? = some l[i] := List.getElem?_eq_getElem hlt
        have hzx := HZ.out l[i] (List.getElem_mem hlt)
        obtain ⟨ga, oa, am, nm, cm, rfl, a0, a1, a2, a3, rm⟩ := HR.out _ hb i _ hgx
        generalize l[i] = x at *
        have HX := Lib.hid hgx
        have HS := Lib.hid (szSeg_any x am nm cm r wr (rm.later hb) hzx hr0 (by omega))
        have hi0 : (0 : Int) ≤ (i : Int) := by omega
        have hi1 : (i : Int) < (l.length : Int) := by omega
        clear hgx hzx rm
        go_wp2_with fail
        clear a0 a1 a2 a3
        refine HS.out.mono ?_
        rintro e w1 ⟨⟨r1, rfl, hr, hr2, hr3⟩, k1⟩
        have HW := Lib.hid hr
        have b1 := hb.trans (k1.mono hb.size)
        clear hr
        by_cases hn : r1 < 0
        · go_wp2
          go_ret
          exact ⟨⟨-1, rfl, .inl (by omega), by omega, by omega⟩, b1⟩
        · have HU : Hid (r1 ≤ left - ((l.length + gIts (l.take (i + 1)) : Nat) : Int) ∧ ∀ (j : Nat) (b : Sg), l[j]? = some b → j < i + 1 → sgLean left b) := by
            obtain ⟨h2, h4⟩ := HRE.out
            rcases HW.out with h3 | h3
            · exact absurd h3 hn
            · refine ⟨?_, fun j b hj hji => ?_⟩
              · rw [gIts_take HX.out]
                have := h3.1
                omega
              · by_cases c : j = i
                · subst c
                  have h5 := HX.out
                  rw [hj] at h5
                  cases h5
                  exact h3.2.mono hr1
                · exact h4 j b hj (by omega)
          go_wp2
          exact ⟨⟨i + 1, r1, by omega, by simp, rfl, by omega, by omega, HU.out, b1⟩, by first | omega | (simp [intOf]; omega)⟩
      · have hge : ¬ (i : Int) < (l.length : Int) := by omega
        have HE : Hid (((l.length + gIts l : Nat) : Int) ≤ left ∧ ∀ b ∈ l, sgLean left b) := by
          obtain ⟨h2, h4⟩ := HRE.out
          rw [List.take_of_length_le (by omega)] at h2
          refine ⟨by omega, fun b hb => ?_⟩
          obtain ⟨j, hj, rfl⟩ := List.getElem_of_mem hb
          exact h4 j _ (List.getElem?_eq_getElem hj) (by omega)
        go_wp2
        go_ret
        exact ⟨⟨r, rfl, .inr HE.out, hr1, by omega⟩, hb⟩

end Go.Proofs.YtgcnebepklelpaaGreat

/- Copies of segments that come in. -/
namespace Go.Proofs.YtgcnebepklelpaaGreat
open Go.RowKit

def Sg.z : Sg := ⟨0, 0, 0, []⟩

theorem Box.four {w : World} {b : Nat} {u0 u1 u2 u3 : Value} {t : TypeId} (h : Box w b #[u0, u1, u2, u3] t) : w.cell? ⟨b, 0, none⟩ = some u0 ∧ w.cell? ⟨b, 1, none⟩ = some u1 ∧ w.cell? ⟨b, 2, none⟩ = some u2 ∧ w.cell? ⟨b, 3, none⟩ = some u3 ∧ w.frozen? ⟨b, 0, none⟩ = false ∧ w.frozen? ⟨b, 1, none⟩ = false ∧ w.frozen? ⟨b, 2, none⟩ = false ∧ w.frozen? ⟨b, 3, none⟩ = false :=
  ⟨h.cell 0 _ rfl, h.cell 1 _ rfl, h.cell 2 _ rfl, h.cell 3 _ rfl, h.loose 0, h.loose 1, h.loose 2, h.loose 3⟩
def set4 (w : World) (b : Nat) (v0 v1 v2 v3 : Value) : World := (((w.setCell ⟨b, 0, none⟩ v0).setCell ⟨b, 1, none⟩ v1).setCell ⟨b, 2, none⟩ v2).setCell ⟨b, 3, none⟩ v3
theorem Box.set4 {w : World} {b : Nat} {u0 u1 u2 u3 : Value} {t : TypeId} (h : Box w b #[u0, u1, u2, u3] t) (v0 v1 v2 v3 : Value) : Box (Go.Proofs.YtgcnebepklelpaaGreat.set4 w b v0 v1 v2 v3) b #[v0, v1, v2, v3] t := (((h.set 0 v0).set 1 v1).set 2 v2).set 3 v3
theorem RBuf.asideG {α : Type} {E : Enc α} {B : Nat} {w : World} {v : Value} {l : List α} (h : RBuf E B w w v l) (g i : Nat) (u : Value) (hg : g < B) : RBuf E B (w.setCell ⟨g, i, none⟩ u) (w.setCell ⟨g, i, none⟩ u) v l := by
  refine h.shift (stored_grown w g i u) ?_
  cases hv : v.ownBlock with
  | none => exact .inl rfl
  | some k => exact .inr (fun e => by have := (h.own.lt k hv).1; have := Option.some.inj e; omega)

def put4 (w : World) (g i : Nat) (y : SgH) : World := (((w.setCell ⟨g, i * 4, none⟩ (.int .i64 y.no)).setCell ⟨g, i * 4 + 1, none⟩ (.int .i64 y.gen)).setCell ⟨g, i * 4 + 2, none⟩ (.int .i64 y.ende)).setCell ⟨g, i * 4 + 3, none⟩ (.slice y.a y.n y.c)
theorem put4_grown (w : World) (g i : Nat) (y : SgH) : w.grownBy (put4 w g i y) (some g) :=
  (((stored_grown w g (i * 4) _).trans (stored_grown _ g (i * 4 + 1) _)).trans (stored_grown _ g (i * 4 + 2) _)).trans (stored_grown _ g (i * 4 + 3) _)
theorem RBuf.put4 {B : Nat} {w0 w : World} {g cap : Nat} {l : List SgH} (h : RBuf sgE B w0 w (.slice (some ⟨g, 0, none⟩) l.length cap) l) (i : Nat) (x : SgH) (hi : l[i]? = some x) (y : SgH) :
    RBuf sgE B w0 (Go.Proofs.YtgcnebepklelpaaGreat.put4 w g i y) (.slice (some ⟨g, 0, none⟩) l.length cap) (l.set i y) := by
  have hlt : i < l.length := (List.getElem?_eq_some_iff.1 hi).1
  have hl1 : ∀ z : SgH, (l.set i z).length = l.length := fun z => by simp
  have ha1 : ∀ z : SgH, (l.set i z)[i]? = some z := fun z => List.getElem?_set_self hlt
  have s0 : RBuf sgE B w0 (w.setCell ⟨g, i * 4, none⟩ (.int .i64 y.no)) (.slice (some ⟨g, 0, none⟩) l.length cap) (l.set i ⟨y.no, x.gen, x.ende, x.a, x.n, x.c⟩) := h.stored i _ ⟨y.no, x.gen, x.ende, x.a, x.n, x.c⟩ hi 0 (by decide) (.int .i64 y.no) rfl
  rw [← hl1 ⟨y.no, x.gen, x.ende, x.a, x.n, x.c⟩] at s0
  have s1 := s0.stored i _ ⟨y.no, y.gen, x.ende, x.a, x.n, x.c⟩ (ha1 _) 1 (by decide) (.int .i64 y.gen) rfl
  rw [List.set_set, hl1] at s1
  rw [← hl1 ⟨y.no, y.gen, x.ende, x.a, x.n, x.c⟩] at s1
  have s2 := s1.stored i _ ⟨y.no, y.gen, y.ende, x.a, x.n, x.c⟩ (ha1 _) 2 (by decide) (.int .i64 y.ende) rfl
  rw [List.set_set, hl1] at s2
  rw [← hl1 ⟨y.no, y.gen, y.ende, x.a, x.n, x.c⟩] at s2
  have s3 := s2.stored i _ ⟨y.no, y.gen, y.ende, y.a, y.n, y.c⟩ (ha1 _) 3 (by decide) (.slice y.a y.n y.c) rfl
  rw [List.set_set, hl1] at s3
  exact s3

theorem SgO.put {B : Nat} {w : World} {g cap n : Nat} {bs : List Sg} {hs : List SgH} (h : SgO B w (.slice (some ⟨g, 0, none⟩) n cap) bs hs) (hn : n = hs.length) {i : Nat} {x0 : SgH} (hi : hs[i]? = some x0) (x : SgH) (b : Sg)
    (hx : x.no = b.no ∧ x.gen = b.gen ∧ x.ende = b.ende) (hm : RBuf itE B w w x.mv b.items) (hf : ∀ k, x.mv.ownBlock = some k → k ≠ g)
    (ha : ∀ (j : Nat) (y : SgH), j ≠ i → hs[j]? = some y → ∀ k, x.mv.ownBlock = some k → y.mv.ownBlock ≠ some k) :
    SgO B (Go.Proofs.YtgcnebepklelpaaGreat.put4 w g i x) (.slice (some ⟨g, 0, none⟩) n cap) (bs.set i b) (hs.set i x) := by
  subst hn
  have hg := put4_grown w g i x
  have kept : ∀ (m : Value) (l : List Itm), RBuf itE B w w m l → (∀ k, m.ownBlock = some k → k ≠ g) → RBuf itE B (Go.Proofs.YtgcnebepklelpaaGreat.put4 w g i x) (Go.Proofs.YtgcnebepklelpaaGreat.put4 w g i x) m l := fun m l hm hf => by
    refine hm.shift hg ?_
    cases hmb : m.ownBlock with
    | none => exact .inl rfl
    | some k => exact .inr (fun e => hf k hmb (Option.some.inj e))
  have far0 : ∀ {j : Nat} {y : SgH}, hs[j]? = some y → ∀ k, y.mv.ownBlock = some k → k ≠ g := fun {j y} hj k hk e => h.far j y hj k hk (by rw [e]; rfl)
  refine ⟨(h.row.put4 i x0 hi x).here, by simp [h.len], fun j y d h1 h2 => ?_, fun j y h1 k hk => ?_, fun j k y z h1 h2 hjk q hq => ?_⟩
  · rcases set_waysG h1 with ⟨rfl, rfl⟩ | ⟨hne, h1⟩
    · rcases set_waysG h2 with ⟨_, rfl⟩ | ⟨hne, _⟩
      · exact ⟨hx, kept _ _ hm hf⟩
      · exact absurd rfl hne
    · rcases set_waysG h2 with ⟨e, _⟩ | ⟨_, h2⟩
      · exact absurd e hne
      · exact ⟨(h.at' j y d h1 h2).1, kept _ _ (h.at' j y d h1 h2).2 (far0 h1)⟩
  · rcases set_waysG h1 with ⟨rfl, rfl⟩ | ⟨hne, h1⟩
    · intro e; exact hf k hk (Option.some.inj e).symm
    · exact h.far j y h1 k hk
  · rcases set_waysG h1 with ⟨ej, ey⟩ | ⟨nj, g1⟩
    · rcases set_waysG h2 with ⟨ek, _⟩ | ⟨nk, g2⟩
      · exact absurd (ej.trans ek.symm) hjk
      · rw [ey] at hq
        exact ha k z nk g2 q hq
    · rcases set_waysG h2 with ⟨_, ez⟩ | ⟨_, g2⟩
      · rw [ez]; intro e; exact ha j y nj g1 q e hq
      · exact h.apart j k y z g1 g2 hjk q hq

set_option maxRecDepth 100000 in
set_option maxHeartbeats 2000000 in
theorem toSeg_any (b : Sg) (a : Option Addr) (n c : Nat) (w : World) (h : Rows' litE w (.slice a n c) b.items) (hl : b.items.length ≤ 1048576) :
    Calls Tryz.prog 60 #[.agg #[.int .i64 b.no, .int .i64 b.gen, .int .i64 b.ende, .slice a n c]] w fun e w' => ∃ (p : Option Addr) (k q : Nat), e = .returned (.agg #[.int .i64 b.no, .int .i64 b.gen, .int .i64 b.ende, .slice p k q]) ∧ RBuf itE w.heap.size w' w' (.slice p k q) b.items ∧ Below w.heap.size w w' := by
  have bA := belNew w (.cells #[.int .i64 b.no, .int .i64 b.gen, .int .i64 b.ende, .slice a n c] 106)
  obtain ⟨wA, hwA⟩ : ∃ wA, wA = w.alloc (.cells #[.int .i64 b.no, .int .i64 b.gen, .int .i64 b.ende, .slice a n c] 106) := ⟨_, rfl⟩
  have eA : wA.heap.size = w.heap.size + 1 := by rw [hwA]; simp
  rw [← hwA] at bA
  have hB := Box.new wA #[.int .i64 0, .int .i64 0, .int .i64 0, .slice none 0 0] 80
  have bB := bA.trans ((belNew wA (.cells #[.int .i64 0, .int .i64 0, .int .i64 0, .slice none 0 0] 80)).mono bA.size)
  obtain ⟨wB, hwB⟩ : ∃ wB, wB = wA.alloc (.cells #[.int .i64 0, .int .i64 0, .int .i64 0, .slice none 0 0] 80) := ⟨_, rfl⟩
  have eB : wB.heap.size = w.heap.size + 1 + 1 := by rw [hwB]; simp; omega
  rw [← hwB] at hB bB
  rw [eA] at hB
  have hC := Box.new wB #[.int .i64 b.no, .int .i64 b.gen, .int .i64 b.ende, .slice none 0 0] 80
  have kC := belNew wB (.cells #[.int .i64 b.no, .int .i64 b.gen, .int .i64 b.ende, .slice none 0 0] 80)
  have bC := bB.trans (kC.mono bB.size)
  obtain ⟨wC, hwC⟩ : ∃ wC, wC = wB.alloc (.cells #[.int .i64 b.no, .int .i64 b.gen, .int .i64 b.ende, .slice none 0 0] 80) := ⟨_, rfl⟩
  have eC : wC.heap.size = w.heap.size + 1 + 1 + 1 := by rw [hwC]; simp; omega
  rw [← hwC] at hC kC bC
  rw [eB] at hC
  have hB' := hB.later kC
  have HT := Lib.hid (toItemS_any b.items _ wC (h.later bC) hl)
  have HEC := Lib.hid eC
  have HWC : Hid (wC = ((w.alloc (.cells #[.int .i64 b.no, .int .i64 b.gen, .int .i64 b.ende, .slice a n c] 106)).alloc (.cells #[.int .i64 0, .int .i64 0, .int .i64 0, .slice none 0 0] 80)).alloc (.cells #[.int .i64 b.no, .int .i64 b.gen, .int .i64 b.ende, .slice none 0 0] 80)) := by rw [← hwA, ← hwB, ← hwC]; exact rfl
  clear h hB bB bA kC eA eB eC hwA hwB hwC
  go_enter Tryz.func60, Tryz.ntmps60
  go_wp2_with fail
  rw [← HWC.out]
  refine HT.out.mono ?_
  rintro e w1 ⟨v1, rfl, R1⟩
  obtain ⟨p, q, rfl⟩ := R1.form
  have B1 := hB'.later R1.bel
  have C1 := hC.later R1.bel
  have b1 := bC.trans (R1.bel.mono bC.size)
  obtain ⟨u0, u1, u2, u3, f0, f1, f2, f3⟩ := B1.four
  obtain ⟨x0, x1, x2, x3, y0, y1, y2, y3⟩ := C1.four
  have C2 : Box (w1.setCell ⟨w.heap.size + 1 + 1, 3, none⟩ (.slice p b.items.length q)) (w.heap.size + 1 + 1) #[.int .i64 b.no, .int .i64 b.gen, .int .i64 b.ende, .slice p b.items.length q] 80 := C1.set 3 _
  have B2 : Box (w1.setCell ⟨w.heap.size + 1 + 1, 3, none⟩ (.slice p b.items.length q)) (w.heap.size + 1) #[.int .i64 0, .int .i64 0, .int .i64 0, .slice none 0 0] 80 := B1.other (by omega) 3 _
  have hg1 : w.heap.size + 1 + 1 < wC.heap.size := by have := HEC.out; omega
  have R2 := Lib.hid (R1.here.asideG (w.heap.size + 1 + 1) 3 (.slice p b.items.length q) hg1)
  have b2 := Lib.hid (b1.setCell (p := ⟨w.heap.size + 1 + 1, 3, none⟩) (show w.heap.size ≤ w.heap.size + 1 + 1 by omega) (.slice p b.items.length q))
  have HG := Lib.hid hg1
  clear hB' hC bC HT HWC HEC B1 C1 b1 R1 hg1
  go_upto_region 6 with fail
  generalize w1.setCell ⟨w.heap.size + 1 + 1, 3, none⟩ (.slice p b.items.length q) = w2 at C2 B2 R2 b2 ⊢
  clear u0 u1 u2 u3 x0 x1 x2 x3 f0 f1 f2 f3 y0 y1 y2 y3
  obtain ⟨u0, u1, u2, u3, f0, f1, f2, f3⟩ := B2.four
  obtain ⟨x0, x1, x2, x3, y0, y1, y2, y3⟩ := C2.four
  have L5 := B2.set4 (.int .i64 b.no) (.int .i64 b.gen) (.int .i64 b.ende) (.slice p b.items.length q)
  unfold set4 at L5
  obtain ⟨z0, z1, z2, z3, _⟩ := L5.four
  clear L5 B2 C2
  go_wp2
  refine bodyPost_ret (v := .agg #[.int .i64 b.no, .int .i64 b.gen, .int .i64 b.ende, .slice p b.items.length q]) (by simp [results, Tryz.results60, go_sem, z0, z1, z2, z3]) rfl ⟨_, _, _, rfl, ?_, ?_⟩
  · have hl : w.heap.size + 1 < wC.heap.size := by have := HG.out; omega
    exact ((((R2.out.asideG _ 0 _ hl).asideG _ 1 _ hl).asideG _ 2 _ hl).asideG _ 3 _ hl).lower (by omega)
  · exact (((b2.out.setCell (p := ⟨w.heap.size + 1, 0, none⟩) (by simp) _).setCell (p := ⟨w.heap.size + 1, 1, none⟩) (by simp) _).setCell (p := ⟨w.heap.size + 1, 2, none⟩) (by simp) _).setCell (p := ⟨w.heap.size + 1, 3, none⟩) (by simp) _

set_option maxRecDepth 100000 in
set_option maxHeartbeats 4000000 in
theorem toSegS_any (l : List Sg) (v : Value) (w : World) (h : LGRd w v l) (hl : l.length ≤ 1048576) (hm : ∀ b ∈ l, b.items.length ≤ 1048576) :
    Calls Tryz.prog 37 #[v] w fun e w' => ∃ v' hs, e = .returned v' ∧ SgO w.heap.size w' v' l hs ∧ Below w.heap.size w w' := by
  obtain ⟨a, cap, rfl, hrow⟩ := h.segs
  have HR := Lib.hid hrow
  have HM := Lib.hid hm
  clear h hrow hm
  go_enter Tryz.func37, Tryz.ntmps37
  go_wp2_with (at_make; refine wpList_make_rows rfl _ _ sgE rfl .i64 .i64 _ _ l.length rfl rfl rfl rfl (by show 49 * l.length ≤ _; omega) ?_; intro w1 hr1 hs1)
  have S0 : SgO w.heap.size w1 (.slice (some ⟨w.heap.size, 0, none⟩) l.length l.length) (copyTo Sg.z l 0) (List.replicate l.length sgE.z0) := by
    rw [copyTo_zero]
    refine ⟨hr1.here, by simp, fun j x b h1 h2 => ?_, fun j x h1 k hk => ?_, fun i j x y h1 h2 _ k hk => ?_⟩
    · rw [List.getElem?_replicate] at h1 h2
      split at h1
      · rename_i c
        rw [if_pos c] at h2
        cases h1
        cases h2
        exact ⟨⟨rfl, rfl, rfl⟩, ⟨World.ownsRow_nil _ _ _ _, Below.refl _ _, hr1.le⟩⟩
      · cases h1
    · rw [List.getElem?_replicate] at h1
      split at h1
      · cases h1; cases hk
      · cases h1
    · rw [List.getElem?_replicate] at h1
      split at h1
      · cases h1; cases hk
      · cases h1
  have B0 : Below w.heap.size w w1 := hr1.bel
  go_loopw [4] (fun iv wr => ∃ (i : Nat) (hs : List SgH), i ≤ l.length ∧ iv = .int .i64 (i : Int) ∧ SgO w.heap.size wr (.slice (some ⟨w.heap.size, 0, none⟩) l.length l.length) (copyTo Sg.z l i) hs ∧ Below w.heap.size w wr) (fun iv _ => l.length - (intOf iv).toNat)
  case atStart => exact ⟨0, _, by omega, rfl, S0, B0⟩
  case round =>
    clear S0 B0 hr1 hs1
    obtain ⟨i, hs, hi, rfl, S, hb⟩ := hrel
    by_cases hlt : i < l.length
    · have hgx : l[i]? = some l[i] := List.getElem?_eq_getElem hlt
      obtain ⟨ga, oa, am, nm, cm, rfl, a0, a1, a2, a3, rm⟩ := HR.out _ hb i _ hgx
      have hi0 : (0 : Int) ≤ (i : Int) := by omega
      have hi1 : (i : Int) < (l.length : Int) := by omega
      have hml := copyTo_length (z := Sg.z) hi
      have hms := copyTo_set (z := Sg.z) hlt
      have hat := copyTo_at (z := Sg.z) hlt
      have hhl : l.length = hs.length := by rw [S.len, hml]
      obtain ⟨x0, hx0⟩ : ∃ x0, hs[i]? = some x0 := ⟨_, List.getElem?_eq_getElem (by omega)⟩
      have HF : Hid (∀ w1, Below wr.heap.size wr w1 → ∃ (v0 v1 v2 : Int) (pa : Option Addr) (pn pc : Nat), w1.cell? ⟨w.heap.size, i * 4, none⟩ = some (.int .i64 v0) ∧ w1.frozen? ⟨w.heap.size, i * 4, none⟩ = false ∧ w1.cell? ⟨w.heap.size, i * 4 + 1, none⟩ = some (.int .i64 v1) ∧ w1.frozen? ⟨w.heap.size, i * 4 + 1, none⟩ = false ∧ w1.cell? ⟨w.heap.size, i * 4 + 2, none⟩ = some (.int .i64 v2) ∧ w1.frozen? ⟨w.heap.size, i * 4 + 2, none⟩ = false ∧ w1.cell? ⟨w.heap.size, i * 4 + 3, none⟩ = some (.slice pa pn pc) ∧ w1.frozen? ⟨w.heap.size, i * 4 + 3, none⟩ = false) := by
        intro w1 hb1
        have h1 := S.later hb1
        have c0 := h1.cellAt hx0 hhl 0 _ rfl
        have c1 := h1.cellAt hx0 hhl 1 _ rfl
        have c2 := h1.cellAt hx0 hhl 2 _ rfl
        have c3 := h1.cellAt hx0 hhl 3 _ rfl
        exact ⟨_, _, _, _, _, _, c0.1, c0.2, c1.1, c1.2, c2.1, c2.2, c3.1, c3.2⟩
      have hmx := HM.out l[i] (List.getElem_mem hlt)
      generalize hx : l[i] = x at *
      have HT := Lib.hid (toSeg_any x am nm cm wr (rm.later hb) hmx)
      have HX0 := Lib.hid hx0
      have HHL := Lib.hid hhl
      clear hgx rm hx0 hhl hx hmx
      go_wp2_with (go_at_call 60; refine HT.out.mono ?_; rintro e w1 ⟨pp, pk, pq, rfl, RM, hb1⟩; obtain ⟨v0, v1, v2, pa, pn, pc, d0, f0, d1, f1, d2, f2, d3, f3⟩ := HF.out w1 hb1)
      have hp := (S.later hb1).put HHL.out HX0.out ⟨x.no, x.gen, x.ende, pp, pk, pq⟩ x ⟨rfl, rfl, rfl⟩ (RM.lower hb.size) (fun k hk e => by
        have h1 := (RM.own.lt k hk).1
        have h2 := (S.where'.1 w.heap.size rfl).2
        omega) (fun j y _ hj k hk e => by
        have h1 := (RM.own.lt k hk).1
        have h2 := (S.where'.2 j y hj k e).2
        omega)
      rw [hms] at hp
      have hbz : Below w.heap.size w (put4 w1 w.heap.size i ⟨x.no, x.gen, x.ende, pp, pk, pq⟩) := (hb.trans (hb1.mono hb.size)).grown (put4_grown _ _ _ _) (Nat.le_trans hb.size hb1.size) (fun k hk => by have := Option.some.inj hk; omega)
      unfold put4 at hp hbz
      go_roundw
      case rel => exact ⟨i + 1, _, by omega, by go_num, hp, hbz⟩
      case measure => simp [intOf]; omega
    · go_wp2
      go_ret
      rw [copyTo_all (by omega)] at S
      exact ⟨_, _, rfl, S, hb⟩

end Go.Proofs.YtgcnebepklelpaaGreat
