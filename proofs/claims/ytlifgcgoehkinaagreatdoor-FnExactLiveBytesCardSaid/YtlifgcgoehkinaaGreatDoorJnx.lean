/- Texts of our own, joined. -/
import Derived.Test.YtlifgcgoehkinaaGreatDoorJv
import Derived.Test.YtlifgcgoehkinaaGreatDoorJkx
import Derived.Test.YtlifgcgoehkinaaGreatDoorJmx
/- What is needed, segment by segment: the program's neededBySeg. -/
namespace Go.Proofs.YtlifgcgoehkinaaGreatDoor
open Go.RowKit

structure LsH where
  a : Option Addr
  n : Nat
  c : Nat
def LsH.mv (h : LsH) : Value := .slice h.a h.n h.c

def lsE : Enc LsH where
  ty := 56
  sty := 72
  sz := 1
  bytes := 24
  zero := .slice none 0 0
  f := fun x => [.slice x.a x.n x.c]
  len := fun _ => rfl
  pos := by decide
  one := fun _ u hu => by simp at hu; subst hu; rfl
  und := Tryz.underlying72
  info := by kernel_rfl
  zc := rfl
  z0 := ⟨none, 0, 0⟩
  zf := rfl

def NbR (B : Nat) (w : World) (v : Value) (n : Nat) (G : Nat → List Itm) : Prop := ∃ hs : List LsH, RBuf lsE B w w v hs ∧ hs.length = n ∧ ∀ (j : Nat) (h : LsH), hs[j]? = some h → RBuf itE B w w h.mv (G j)
theorem NbR.later {B : Nat} {w w' : World} {v : Value} {n : Nat} {G : Nat → List Itm} (h : NbR B w v n G) (hb : Below w.heap.size w w') : NbR B w' v n G := by
  obtain ⟨hs, h1, h2, h3⟩ := h
  exact ⟨hs, (h1.later hb).here, h2, fun j x hj => ((h3 j x hj).later hb).here⟩
theorem NbR.grown {B : Nat} {w w' : World} {v : Value} {n : Nat} {G : Nat → List Itm} {r : Option Nat} (h : NbR B w v n G) (hg : w.grownBy w' r) (hr : ∀ k, r = some k → k < B) : NbR B w' v n G := by
  obtain ⟨hs, h1, h2, h3⟩ := h
  have sh : ∀ {α : Type} {E : Enc α} {m : Value} {l : List α}, RBuf E B w w m l → RBuf E B w' w' m l := fun {α E m l} hm => by
    refine hm.shift hg ?_
    cases hb : m.ownBlock with
    | none => exact .inl rfl
    | some k => exact .inr (fun e => by have := hr k e.symm; have := (hm.own.lt k hb).1; omega)
  exact ⟨hs, sh h1, h2, fun j x hj => sh (h3 j x hj)⟩
theorem NbR.form {B : Nat} {w : World} {v : Value} {n : Nat} {G : Nat → List Itm} (h : NbR B w v n G) : ∃ (a : Option Addr) (c : Nat), v = .slice a n c := by
  obtain ⟨hs, h1, h2, _⟩ := h
  obtain ⟨a, c, rfl⟩ := h1.form
  exact ⟨a, c, by rw [h2]⟩
theorem NbR.at {B : Nat} {w : World} {a : Option Addr} {n c : Nat} {G : Nat → List Itm} (h : NbR B w (.slice a n c) n G) {i : Nat} (hi : i < n) : ∃ (g : Nat) (ai : Option Addr) (ci : Nat), a = some ⟨g, 0, none⟩ ∧ w.cell? ⟨g, i, none⟩ = some (.slice ai (G i).length ci) ∧ RBuf itE B w w (.slice ai (G i).length ci) (G i) := by
  obtain ⟨hs, h1, h2, h3⟩ := h
  have hil : i < hs.length := by rw [h2]; exact hi
  have hx : hs[i]? = some hs[i] := List.getElem?_eq_getElem hil
  obtain ⟨y, hy⟩ : ∃ y, hs[i] = y := ⟨_, rfl⟩
  rw [hy] at hx
  have hm := h3 i y hx
  obtain ⟨ai, ci, e⟩ := hm.form
  rcases h1.own.2 with ⟨_, h0⟩ | ⟨g, cap, cur, e1, _⟩
  · omega
  · injection e1 with e2 e3 e4
    subst e2 e4
    have hc := h1.cell (g := g) (cap := c) (by rw [h2]) i y hx 0 _ rfl
    rw [show lsE.sz = 1 from rfl, Nat.mul_one, Nat.add_zero] at hc
    refine ⟨g, ai, ci, rfl, ?_, ?_⟩
    · rw [hc]
      exact congrArg some e
    · rw [← e]
      exact hm
structure NbO (B : Nat) (W w : World) (n : Nat) (G : Nat → List Itm) (hs : List LsH) : Prop where
  row : RBuf lsE B W w (.slice (some ⟨B, 0, none⟩) hs.length n) hs
  lh : hs.length = n
  at' : ∀ (j : Nat) (h : LsH), hs[j]? = some h → RBuf itE (B + 1) w w h.mv (G j)
  apart : ∀ (i j : Nat) (h h' : LsH), hs[i]? = some h → hs[j]? = some h' → i ≠ j → ∀ k, h.mv.ownBlock = some k → h'.mv.ownBlock ≠ some k
theorem NbO.rd {B B0 : Nat} {W w : World} {n : Nat} {G : Nat → List Itm} {hs : List LsH} (h : NbO B W w n G hs) (hB : B0 ≤ B) : NbR B0 w (.slice (some ⟨B, 0, none⟩) n n) n G :=
  ⟨hs, by have := h.row.here.lower hB; rw [h.lh] at this; exact this, h.lh, fun j x hj => (h.at' j x hj).lower (by omega)⟩
theorem NbO.later {B : Nat} {W w w' : World} {n : Nat} {G : Nat → List Itm} {hs : List LsH} (h : NbO B W w n G hs) (hb : Below w.heap.size w w') : NbO B W w' n G hs :=
  ⟨h.row.later hb, h.lh, fun j x hj => ((h.at' j x hj).later hb).here, h.apart⟩
theorem NbO.same {B : Nat} {W w : World} {n : Nat} {G G' : Nat → List Itm} {hs : List LsH} (h : NbO B W w n G hs) (hG : ∀ j, j < n → G j = G' j) : NbO B W w n G' hs :=
  ⟨h.row, h.lh, fun j x hj => by rw [← hG j (by rw [← h.lh]; exact (List.getElem?_eq_some_iff.1 hj).1)]; exact h.at' j x hj, h.apart⟩
theorem NbO.made {W w : World} {n : Nat} (h : RBuf lsE W.heap.size W w (.slice (some ⟨W.heap.size, 0, none⟩) n n) (List.replicate n lsE.z0)) (hs : W.heap.size < w.heap.size) : NbO W.heap.size W w n (fun _ => []) (List.replicate n lsE.z0) := by
  refine ⟨by rw [List.length_replicate]; exact h, List.length_replicate, fun j x hj => ?_, fun i j x y hi hj hne k hk => ?_⟩
  · have : x = lsE.z0 := by
      rw [List.getElem?_replicate] at hj
      split at hj
      · exact (Option.some.inj hj).symm
      · cases hj
    subst this
    exact ⟨World.ownsRow_nil _ _ _ _, Below.refl _ _, by omega⟩
  · have : x = lsE.z0 := by
      rw [List.getElem?_replicate] at hi
      split at hi
      · exact (Option.some.inj hi).symm
      · cases hi
    subst this
    cases hk
theorem NbO.cell {B : Nat} {W w : World} {n : Nat} {G : Nat → List Itm} {hs : List LsH} (h : NbO B W w n G hs) {i : Nat} {y : LsH} (hi : hs[i]? = some y) : w.cell? ⟨B, i, none⟩ = some (.slice y.a y.n y.c) := by
  have := h.row.cell rfl i y hi 0 _ rfl
  rw [show lsE.sz = 1 from rfl, Nat.mul_one, Nat.add_zero] at this
  exact this
theorem NbO.grown {B : Nat} {W w w6 : World} {n : Nat} {G : Nat → List Itm} {hs : List LsH} (h : NbO B W w n G hs) {i : Nat} {y : LsH} (hi : hs[i]? = some y) (hg : w.grownBy w6 y.mv.ownBlock) : RBuf lsE B W w6 (.slice (some ⟨B, 0, none⟩) hs.length n) hs :=
  h.row.grown hg (.inr (fun e => by have := ((h.at' i y hi).own.lt B e.symm).1; omega)) (fun k hk => by have := ((h.at' i y hi).own.lt k hk).1; omega)
theorem NbO.cells {B : Nat} {W w w6 : World} {n : Nat} {G : Nat → List Itm} {hs : List LsH} (h : NbO B W w n G hs) {i : Nat} {y : LsH} (hi : hs[i]? = some y) (hg : w.grownBy w6 y.mv.ownBlock) : w6.cell? ⟨B, i, none⟩ = some (.slice y.a y.n y.c) ∧ w6.frozen? ⟨B, i, none⟩ = false := by
  have hr := h.grown hi hg
  have := hr.cell rfl i y hi 0 _ rfl
  rw [show lsE.sz = 1 from rfl, Nat.mul_one, Nat.add_zero] at this
  exact ⟨this, hr.loose i⟩
theorem NbO.app {B : Nat} {W w w6 : World} {n : Nat} {G : Nat → List Itm} {hs : List LsH} (h : NbO B W w n G hs) {i : Nat} {y : LsH} (hi : hs[i]? = some y) (a6 : Option Addr) (c6 : Nat) (m : List Itm)
    (hr : RBuf itE (B + 1) w6 w6 (.slice a6 m.length c6) m) (hg : w.grownBy w6 y.mv.ownBlock) (ha : (Value.slice a6 m.length c6).ownBlock = y.mv.ownBlock ∨ (Value.slice a6 m.length c6).ownBlock = some w.heap.size) :
    NbO B W (w6.setCell ⟨B, i, none⟩ (.slice a6 m.length c6)) n (fun j => if j = i then m else G j) (hs.set i ⟨a6, m.length, c6⟩) := by
  have hB : ∀ {v : Value} {l : List Itm} {x : World}, RBuf itE (B + 1) x x v l → v.ownBlock = none ∨ v.ownBlock ≠ some B := fun {v l x} hv => .inr (fun e => by have := (hv.own.lt B e).1; omega)
  have hst := (h.grown hi hg).stored i y ⟨a6, m.length, c6⟩ hi 0 (by decide) (.slice a6 m.length c6) rfl
  rw [show lsE.sz = 1 from rfl, Nat.mul_one, Nat.add_zero] at hst
  refine ⟨by rw [List.length_set]; exact hst, by rw [List.length_set]; exact h.lh, fun j x hj => ?_, fun p q x z hp hq hne k hk => ?_⟩
  · by_cases c : j = i
    · subst c
      have hjl : j < hs.length := (List.getElem?_eq_some_iff.1 hi).1
      have : x = ⟨a6, m.length, c6⟩ := by
        rw [List.getElem?_set_self hjl] at hj
        exact (Option.some.inj hj).symm
      subst this
      rw [if_pos rfl]
      exact hr.shift (stored_grown _ B j _) (hB hr)
    · rw [if_neg c]
      rw [List.getElem?_set_ne (fun e => c e.symm)] at hj
      have h1 := h.at' j x hj
      have hne : x.mv.ownBlock = none ∨ x.mv.ownBlock ≠ y.mv.ownBlock := by
        cases hx : x.mv.ownBlock with
        | none => exact .inl rfl
        | some k => exact .inr (fun e => h.apart j i x y hj hi c k hx e.symm)
      exact (h1.shift hg hne).shift (stored_grown _ B i _) (hB (h1.shift hg hne))
  · by_cases cp : p = i
    · subst cp
      have hpl : p < hs.length := (List.getElem?_eq_some_iff.1 hi).1
      rw [List.getElem?_set_self hpl] at hp
      have hx : x = ⟨a6, m.length, c6⟩ := (Option.some.inj hp).symm
      rw [List.getElem?_set_ne hne] at hq
      subst hx
      intro e
      rcases ha with e2 | e2
      · rw [show (LsH.mv ⟨a6, m.length, c6⟩).ownBlock = (Value.slice a6 m.length c6).ownBlock from rfl, e2] at hk
        exact h.apart p q y z hi hq hne k hk e
      · rw [show (LsH.mv ⟨a6, m.length, c6⟩).ownBlock = (Value.slice a6 m.length c6).ownBlock from rfl, e2] at hk
        have := Option.some.inj hk
        have := ((h.at' q z hq).own.lt k e).2
        omega
    · rw [List.getElem?_set_ne (fun e => cp e.symm)] at hp
      by_cases cq : q = i
      · subst cq
        have hql : q < hs.length := (List.getElem?_eq_some_iff.1 hi).1
        rw [List.getElem?_set_self hql] at hq
        have hz : z = ⟨a6, m.length, c6⟩ := (Option.some.inj hq).symm
        subst hz
        intro e
        rcases ha with e2 | e2
        · rw [show (LsH.mv ⟨a6, m.length, c6⟩).ownBlock = (Value.slice a6 m.length c6).ownBlock from rfl, e2] at e
          exact h.apart p q x y hp hi hne k hk e
        · rw [show (LsH.mv ⟨a6, m.length, c6⟩).ownBlock = (Value.slice a6 m.length c6).ownBlock from rfl, e2] at e
          have := Option.some.inj e
          have := ((h.at' p x hp).own.lt k hk).2
          omega
      · rw [List.getElem?_set_ne (fun e => cq e.symm)] at hq
        exact h.apart p q x z hp hq hne k hk

theorem sliceFrom_bo {a : Option Addr} {n cap i : Nat} (h : i ≤ n) (wx : World) : (Instr.slice 54 (.slice a n cap) (some (.int .i64 (i : Int))) none none).run Tryz.prog wx = .ok (.slice (if cap = i then a else a.map (·.add i)) (n - i) (cap - i)) wx := by
  rw [run_slice_l (P := Tryz.prog) wx 54 _ n cap (by kernel_rfl) .i64 (i : Int) (by omega) (by omega)]
  rw [show Tryz.prog.elem 54 = 4 by kernel_rfl, Tryz.sizeOf4]
  simp [Result.andThen, sliced]
theorem Rows'.fromB {w : World} {a : Option Addr} {n cap i : Nat} {l : List Bool} (h : Rows' boE w (.slice a n cap) l) (hn : l.length = n) (hi : i ≤ n) : Rows' boE w (.slice (if cap = i then a else a.map (·.add i)) (n - i) (cap - i)) (l.drop i) := by
  rcases h with ⟨e, a', c', e'⟩ | ⟨g, off, cap', e', hc, hg, hcl⟩
  · left
    subst e
    have : n = 0 := by rw [← hn]; rfl
    exact ⟨by simp, _, _, by rw [this, Nat.zero_sub]⟩
  · injection e' with e1 e2 e3
    subst e1 e3
    by_cases hd : i = n
    · left
      refine ⟨by rw [List.drop_eq_nil_iff]; omega, _, _, by rw [hd, Nat.sub_self]⟩
    · right
      have hne : ¬ cap = i := by omega
      refine ⟨g, off + i, cap - i, ?_, by rw [List.length_drop]; omega, hg, fun j x hj k u hk => ?_⟩
      · rw [if_neg hne, List.length_drop, hn]
        simp [Addr.add]
      · rw [List.getElem?_drop] at hj
        have := hcl (i + j) x hj k u hk
        rw [show boE.sz = 1 from rfl, Nat.mul_one] at this ⊢
        rw [show off + i + j + k = off + (i + j) + k by omega]
        exact this

set_option maxRecDepth 100000 in
set_option maxHeartbeats 8000000 in
theorem neededBySeg_any (S : So) (v : Value) (w : World) (h : SoRd w v S) (hL : S.lean) :
    Calls Tryz.prog 26 #[v] w fun e w' => ∃ v', e = .returned v' ∧ NbR w.heap.size w' v' S.g.used.length (ndI S.fr S.g.used (ndS S)) ∧ Below w.heap.size w w' := by
  obtain ⟨va, vb, au, af, cu, cf, rfl, _, hu, _⟩ := h.opened
  obtain ⟨ad, cap, ev, hrow⟩ := hu.segs
  injection ev with e1 e2 e3
  subst e1 e3
  have b0 := belNew w (.cells #[va, vb, .int .i64 S.g.segs, .slice au S.g.used.length cu, .int .i64 S.g.ng, .int .i64 S.g.ns, .int .i64 S.g.st, .int .i64 S.g.nv, .slice af S.fr.length cf] 41)
  have q0 := Box.new w #[va, vb, .int .i64 S.g.segs, .slice au S.g.used.length cu, .int .i64 S.g.ng, .int .i64 S.g.ns, .int .i64 S.g.st, .int .i64 S.g.nv, .slice af S.fr.length cf] 41
  have hl := S.lean_its hL
  have HFC : Hid (∀ (no : Int) X, Below w.heap.size w X → Calls Tryz.prog 45 #[.agg #[va, vb, .int .i64 S.g.segs, .slice au S.g.used.length cu, .int .i64 S.g.ng, .int .i64 S.g.ns, .int .i64 S.g.st, .int .i64 S.g.nv, .slice af S.fr.length cf], .int .i64 no] X fun e w' => e = .returned (.bool (frI S.fr no)) ∧ Below X.heap.size X w') := fun no X hX => isFreed_any S _ no X (h.later hX) hL.2
  have HWF : Hid (∀ X, Below w.heap.size w X → Calls Tryz.prog 44 #[.agg #[va, vb, .int .i64 S.g.segs, .slice au S.g.used.length cu, .int .i64 S.g.ng, .int .i64 S.g.ns, .int .i64 S.g.st, .int .i64 S.g.nv, .slice af S.fr.length cf]] X fun e w' => ∃ v', e = .returned v' ∧ LRd w' v' { S.g with used := kU S.fr S.g.used } ∧ Below X.heap.size X w') := fun X hX => withoutFreed_any S _ X (h.later hX) hL
  have hkl : (its (kU S.fr S.g.used)).length ≤ 1048576 := by
    have h1 := gIts_kU S.fr S.g.used
    rw [its_len]
    omega
  have HIO : Hid (∀ v X, LRd X v { S.g with used := kU S.fr S.g.used } → Calls Tryz.prog 43 #[v] X fun e w' => ∃ v', e = .returned v' ∧ RBuf itE X.heap.size X w' v' (its (kU S.fr S.g.used))) := fun v X hX => implItemsOf_any { S.g with used := kU S.fr S.g.used } v X hX (by
      have h1 := gIts_kU S.fr S.g.used
      have h2 := kU_len S.fr S.g.used
      show (kU S.fr S.g.used).length + gIts (kU S.fr S.g.used) ≤ _
      omega) (fun b hb x hx => S.g.lean_texts hL.1 b (kU_mem hb) x hx)
  have HND : Hid (∀ v X, Rows' itE X v (its (kU S.fr S.g.used)) → Calls Tryz.prog 42 #[v] X fun e w' => ∃ v', e = .returned v' ∧ RBuf boE X.heap.size X w' v' (ndS S)) := fun v X hX => implNeededAll_any _ v X hX hkl
  have HOF : Hid (∀ (k : Nat) (s : Sg), S.g.used[k]? = some s → frI S.fr s.no = false → offN S.fr S.g.used k + s.items.length ≤ (ndS S).length) := fun k s hs hf => by
    rw [ndS_len, ← offN_yes hs hf]
    exact offN_le _ _ _
  have hnd : (ndS S).length ≤ 1048576 := by rw [ndS_len]; exact hkl
  have HSL : Hid (∀ (k : Nat) (s : Sg), S.g.used[k]? = some s → s.items.length ≤ 1048576) := fun k s hs => by have := gIts_at hs; omega
  have HR : Hid _ := hrow
  clear hu hrow h hL e2 hkl
  obtain ⟨W, hW⟩ : ∃ W, w.alloc (.cells #[va, vb, .int .i64 S.g.segs, .slice au S.g.used.length cu, .int .i64 S.g.ng, .int .i64 S.g.ns, .int .i64 S.g.st, .int .i64 S.g.nv, .slice af S.fr.length cf] 41) = W := ⟨_, rfl⟩
  rw [hW] at b0 q0
  have HW := Lib.hid hW
  clear hW
  obtain ⟨n, hn⟩ : ∃ n, S.g.used.length = n := ⟨_, rfl⟩
  have HN := Lib.hid hn
  obtain ⟨m, hm⟩ : ∃ m, S.fr.length = m := ⟨_, rfl⟩
  rw [hn, hm] at q0 HW HFC HWF ⊢
  rw [hn] at hl
  clear hm hn
  obtain ⟨g0, hg0⟩ : ∃ g0, w.heap.size = g0 := ⟨_, rfl⟩
  rw [hg0] at q0
  have HG0 := Lib.hid hg0
  clear hg0
  go_enter Tryz.func26, Tryz.ntmps26
  go_upto_region 1 with fail
  rw [HW.out, HG0.out]
  obtain ⟨x0, x1, x2, x3, x4, x5, x6, x7, x8⟩ := q0.nineG
  go_wp2_with fail
  clear x0 x1 x2 x3 x4 x5 x6 x7 x8
  refine (HWF.out _ b0).mono ?_
  rintro e w1 ⟨v1, rfl, R1, k1⟩
  go_wp2_with fail
  refine (HIO.out _ _ R1).mono ?_
  rintro e w2 ⟨v2, rfl, R2⟩
  obtain ⟨a2, p2, rfl⟩ := R2.form
  go_wp2_with fail
  refine (HND.out _ _ R2.rows).mono ?_
  rintro e w3 ⟨v3, rfl, R3⟩
  obtain ⟨a3, p3, rfl⟩ := R3.form
  have b1 := b0.trans (k1.mono b0.size)
  have b2 := b1.trans (R2.bel.mono b1.size)
  have b3 := b2.trans (R3.bel.mono b2.size)
  have q3 := ((q0.later k1).later R2.bel).later R3.bel
  have x3 := q3.cell 3 (.slice au n cu) rfl
  have HQ := Lib.hid q3
  have HB3 := Lib.hid b3
  have HD3 := Lib.hid R3.rows
  obtain ⟨nl, hnl⟩ : ∃ nl, (ndS S).length = nl := ⟨_, rfl⟩
  rw [hnl] at hnd HOF HD3 ⊢
  have HNL := Lib.hid hnl
  clear q0 b0 b1 b2 b3 q3 R1 R2 R3 HW HWF HIO HND hnl k1
  go_wp2_with (at_make; refine wpList_make_rows rfl _ _ lsE rfl .i64 .i64 _ _ n rfl rfl rfl rfl (by show 25 * n ≤ _; omega) ?_; intro w4 hr4 hs4; have x3' : w4.cell? ⟨g0, 3, none⟩ = some (.slice au n cu) := (HQ.out.later hr4.bel).cell 3 _ rfl)
  have HI0 := Lib.hid (NbO.made hr4 hs4)
  clear x3 hr4 hs4 x3'
  go_loopw [3, 22] (fun bv iv wr => ∃ (k : Nat) (a : Option Addr) (q c : Nat) (hs : List LsH), k ≤ n ∧ iv = .int .i64 (k : Int) ∧ bv = .slice a q c ∧ Hid (q + offN S.fr S.g.used k = nl ∧ Rows' boE w3 (.slice a q c) ((ndS S).drop (offN S.fr S.g.used k))) ∧ Hid (∀ (j : Nat) (y : LsH), k ≤ j → hs[j]? = some y → y = lsE.z0) ∧ NbO w3.heap.size w3 wr n (fun j => if j < k then ndI S.fr S.g.used (ndS S) j else []) hs) (fun _ iv _ => n - (intOf iv).toNat)
  case atStart =>
    have e0 : offN S.fr S.g.used 0 = 0 := by simp [offN, kU, its]
    exact ⟨0, a3, nl, p3, _, by omega, rfl, rfl, ⟨by rw [e0]; rfl, by rw [e0, List.drop_zero]; exact HD3.out⟩, (show ∀ (j : Nat) (y : LsH), 0 ≤ j → (List.replicate n lsE.z0)[j]? = some y → y = lsE.z0 from fun j y _ hj => by
      rw [List.getElem?_replicate] at hj
      split at hj
      · exact (Option.some.inj hj).symm
      · cases hj), HI0.out.same (fun j _ => by simp)⟩
  case round =>
    clear HI0
    obtain ⟨k, a, q, c, hs, hk, rfl, rfl, HQR, HZ0, I⟩ := hrel
    by_cases hlt : k < n
    · obtain ⟨s, hgs⟩ : ∃ s, S.g.used[k]? = some s := ⟨_, List.getElem?_eq_getElem (by rw [HN.out]; exact hlt)⟩
      have bW := HB3.out.trans (I.row.bel.mono HB3.out.size)
      obtain ⟨ga, oa, am, nm, cm, rfl, a0, a1, a2', a4, rm⟩ := HR.out _ bW k s hgs
      have hml := HSL.out k s hgs
      obtain ⟨ai, ci, ei, hits⟩ := rm.items
      injection ei with f1 f2 f3
      subst f1 f2 f3
      obtain ⟨ml, hml2⟩ : ∃ ml, s.items.length = ml := ⟨_, rfl⟩
      have HML := Lib.hid hml2
      rw [hml2] at hml a4
      have hi0 : (0 : Int) ≤ (k : Int) := by omega
      have hi1 : (k : Int) < (n : Int) := by omega
      have I4 := I.later (belNew wr (.cells #[.int .i64 s.no, .int .i64 s.gen, .int .i64 s.ende, .slice am ml cm] 60))
      have XS := Box.new wr #[.int .i64 s.no, .int .i64 s.gen, .int .i64 s.ende, .slice am ml cm] 60
      have HIT : Hid _ := hits
      have HXL : Hid (w3.heap.size < wr.heap.size) := (I.row.own.lt w3.heap.size rfl).2
      have HNO : Hid (frI S.fr s.no = true → offN S.fr S.g.used (k + 1) = offN S.fr S.g.used k ∧ ∀ j, (if j < k then ndI S.fr S.g.used (ndS S) j else []) = (if j < k + 1 then ndI S.fr S.g.used (ndS S) j else [])) := fun e => ⟨offN_no hgs e, fun j => by
        by_cases c1 : j < k
        · rw [if_pos c1, if_pos (by omega)]
        · by_cases c2 : j = k
          · subst c2
            rw [if_neg c1, if_pos (by omega), ndI_no hgs e]
          · rw [if_neg c1, if_neg (by omega)]⟩
      have HYES : Hid (frI S.fr s.no = false → offN S.fr S.g.used (k + 1) = offN S.fr S.g.used k + ml ∧ (∀ j, (if j < k then ndI S.fr S.g.used (ndS S) j else if j = k then ndT s.items (ndS S) (offN S.fr S.g.used k) ml else []) = (if j < k + 1 then ndI S.fr S.g.used (ndS S) j else [])) ∧ offN S.fr S.g.used k + ml ≤ nl) := fun e => ⟨by rw [offN_yes hgs e, hml2], fun j => by
        by_cases c1 : j < k
        · rw [if_pos c1, if_pos (by omega)]
        · by_cases c2 : j = k
          · subst c2
            rw [if_neg c1, if_pos rfl, if_pos (by omega), ndI_yes hgs e, hml2]
          · rw [if_neg c1, if_neg c2, if_neg (by omega)], by rw [← hml2]; exact HOF.out k s hgs e⟩
      have HFS := Lib.hid (HFC.out s.no)
      clear rm bW I hits hgs hml2
      go_upto_region 6 with fail
      clear a0 a1 a2' a4
      generalize wr.alloc (.cells #[.int .i64 s.no, .int .i64 s.gen, .int .i64 s.ende, .slice am ml cm] 60) = wS at I4 XS ⊢
      have HXG0 : Hid (w3.heap.size < wr.heap.size) := HXL
      generalize wr.heap.size = gi at XS HXG0 ⊢
      have s0 := XS.cell 0 (.int .i64 s.no) rfl
      obtain ⟨x0, x1, x2, x3, x4, x5, x6, x7, x8⟩ := (HQ.out.later I4.row.bel).nineG
      have HFS2 := Lib.hid (HFS.out wS (HB3.out.trans (I4.row.bel.mono HB3.out.size)))
      clear HFS
      cases hD : frI S.fr s.no with
      | true =>
        rw [hD] at HFS2
        have HK2 := Lib.hid (HNO.out hD)
        clear HNO HYES hD
        go_wp2_with fail
        clear s0 x0 x1 x2 x3 x4 x5 x6 x7 x8
        refine HFS2.out.mono ?_
        rintro e w6 ⟨rfl, k6⟩
        have I5 := I4.later k6
        clear I4 XS k6
        go_wp2_with fail
        exact ⟨⟨k + 1, a, q, c, hs, by omega, by simp, rfl, by rw [HK2.out.1]; exact HQR, (fun j y hj => HZ0.out j y (by omega)), I5.same (fun j _ => HK2.out.2 j)⟩, by first | omega | (simp [intOf]; omega)⟩
      | false =>
        rw [hD] at HFS2
        have HK2 := Lib.hid (HYES.out hD)
        clear HNO HYES hD
        go_wp2_with fail
        clear s0 x0 x1 x2 x3 x4 x5 x6 x7 x8
        refine HFS2.out.mono ?_
        rintro e w6 ⟨rfl, k6⟩
        have I5 := I4.later k6
        have XS5 := XS.later k6
        obtain ⟨s0, s1, s2, s3, _⟩ := XS5.fourG
        have HXS := Lib.hid XS5
        have HXG : Hid (w3.heap.size < gi) := HXG0
        clear I4 XS k6 HFS2 XS5
        obtain ⟨off, hoff⟩ : ∃ off, offN S.fr S.g.used k = off := ⟨_, rfl⟩
        rw [hoff] at HK2 HQR
        clear hoff
        have hqn := HQR.out.1
        have hqm := HK2.out.2.2
        have HG := Lib.hid (sliceFrom_bo (a := a) (n := q) (cap := c) (i := ml) (by omega))
        have HRD := Lib.hid HQR.out.2
        go_wp2_with fail
        clear s0 s1 s2 s3
        go_loopw [34] (fun jv wr => ∃ (j : Nat) (hs : List LsH), j ≤ ml ∧ jv = .int .i64 (j : Int) ∧ Hid ((∀ (t : Nat) (y : LsH), k + 1 ≤ t → hs[t]? = some y → y = lsE.z0) ∧ ∀ (y : LsH), hs[k]? = some y → ∀ b, y.mv.ownBlock = some b → gi < b) ∧ Box wr gi #[.int .i64 s.no, .int .i64 s.gen, .int .i64 s.ende, .slice am ml cm] 60 ∧ NbO w3.heap.size w3 wr n (fun t => if t < k then ndI S.fr S.g.used (ndS S) t else if t = k then ndT s.items (ndS S) off j else []) hs) (fun jv _ => ml - (intOf jv).toNat)
        case atStart =>
          refine ⟨0, hs, by omega, rfl, ⟨fun t y ht => HZ0.out t y (by omega), fun y hy b hb => ?_⟩, HXS.out, I5.same (fun j _ => ?_)⟩
          · rw [HZ0.out k y (Nat.le_refl _) hy] at hb
            cases hb
          · by_cases c1 : j < k
            · rw [if_pos c1, if_pos c1]
            · rw [if_neg c1, if_neg c1]
              split
              · rfl
              · rfl
        case round =>
          clear I5 HXS HZ0
          obtain ⟨j, hs, hj, rfl, HZ1, XS, I⟩ := hrel
          by_cases hlj : j < ml
          · obtain ⟨x, hgx⟩ : ∃ x, s.items[j]? = some x := ⟨_, List.getElem?_eq_getElem (by rw [HML.out]; exact hlj)⟩
            have bX := HB3.out.trans (I.row.bel.mono HB3.out.size)
            obtain ⟨gx, ox, rfl, i0, i1, i2, i3, i4, i5, i6, i7, i8⟩ := HIT.out _ bX j x hgx
            have htl : j < ((ndS S).drop off).length := by rw [List.length_drop, HNL.out]; omega
            have hRD := HRD.out
            rw [show q = ((ndS S).drop off).length by rw [List.length_drop, HNL.out]; omega] at hRD
            obtain ⟨gn, on, rfl, hcl⟩ := hRD.at j htl
            obtain ⟨b, hb⟩ : ∃ b, ((ndS S).drop off)[j] = b := ⟨_, rfl⟩
            have hb2 : (ndS S)[off + j]? = some b := by rw [← List.getElem?_drop, List.getElem?_eq_getElem htl, hb]
            have hj0 : (0 : Int) ≤ (j : Int) := by omega
            have hj1 : (j : Int) < (ml : Int) := by omega
            have hj2 : (j : Int) < (q : Int) := by omega
            have I6 := I.later (belNew wr (.cells #[.int .i64 x.1, .int .i64 x.2.kind, .int .i64 x.2.valid, .int .i64 x.2.uid, .int .i64 x.2.next, .int .i64 x.2.flags, .string x.2.user, .string x.2.name, .string x.2.text] 68))
            have XI := Box.new wr #[.int .i64 x.1, .int .i64 x.2.kind, .int .i64 x.2.valid, .int .i64 x.2.uid, .int .i64 x.2.next, .int .i64 x.2.flags, .string x.2.user, .string x.2.name, .string x.2.text] 68
            have XS6 := XS.later (belNew wr (.cells #[.int .i64 x.1, .int .i64 x.2.kind, .int .i64 x.2.valid, .int .i64 x.2.uid, .int .i64 x.2.next, .int .i64 x.2.flags, .string x.2.user, .string x.2.name, .string x.2.text] 68))
            have hcn := hcl _ I6.row.bel 0 _ rfl
            rw [show boE.sz = 1 from rfl, Nat.mul_one, Nat.add_zero, hb] at hcn
            have HGY : Hid (b = true → ∀ t, (if t = k then (ndT s.items (ndS S) off j ++ [x]) else if t < k then ndI S.fr S.g.used (ndS S) t else if t = k then ndT s.items (ndS S) off j else []) = (if t < k then ndI S.fr S.g.used (ndS S) t else if t = k then ndT s.items (ndS S) off (j + 1) else [])) := fun e t => by
              rw [ndT_yes hgx (by rw [hb2, e])]
              by_cases c1 : t = k
              · subst c1
                rw [if_pos rfl, if_neg (by omega), if_pos rfl]
              · rw [if_neg c1, if_neg c1, if_neg c1]
            have HGN : Hid (b = false → ndT s.items (ndS S) off (j + 1) = ndT s.items (ndS S) off j) := fun e => ndT_no (by rw [hb2, e])
            have HLN : Hid ((ndT s.items (ndS S) off j).length ≤ 1048576) := by show _ ≤ _; have := ndT_len s.items (ndS S) off j; omega
            clear hgx hcl hRD hb hb2 htl bX I XS
            go_upto_region 10 with fail
            clear i0 i1 i2 i3 i4 i5 i6 i7 i8
            generalize wr.alloc (.cells #[.int .i64 x.1, .int .i64 x.2.kind, .int .i64 x.2.valid, .int .i64 x.2.uid, .int .i64 x.2.next, .int .i64 x.2.flags, .string x.2.user, .string x.2.name, .string x.2.text] 68) = wI at I6 XI XS6 hcn ⊢
            generalize wr.heap.size = gI at XI ⊢
            cases b with
            | false =>
              have HS' := Lib.hid (HGN.out rfl)
              clear HGY HGN
              go_wp2_with fail
              exact ⟨⟨j + 1, hs, by omega, by simp, HZ1, XS6, by rw [HS'.out]; exact I6⟩, by first | omega | (simp [intOf]; omega)⟩
            | true =>
              have HS' := Lib.hid (HGY.out rfl)
              clear HGY HGN
              go_upto_region 11 with fail
              obtain ⟨y, hy⟩ : ∃ y, hs[k]? = some y := ⟨_, List.getElem?_eq_getElem (by rw [I6.lh]; exact hlt)⟩
              have MR := I6.at' k y hy
              have HYL := Lib.hid ((HZ1.out.2 y hy))
              rw [if_neg (by omega), if_pos rfl] at MR
              obtain ⟨ay, ny, cy⟩ := y
              have eny : ny = (ndT s.items (ndS S) off j).length := by
                obtain ⟨_, _, e⟩ := MR.form
                injection e
              subst eny
              have c0 := I6.cell hy
              obtain ⟨q0, q1, q2, q3, q4, q5, q6, q7, q8⟩ := XI.nineG
              have kE := belNew wI (.cells #[.int .i64 x.1, .int .i64 x.2.kind, .int .i64 x.2.valid, .int .i64 x.2.uid, .int .i64 x.2.next, .int .i64 x.2.flags, .string x.2.user, .string x.2.name, .string x.2.text] 68)
              have I7 := I6.later kE
              have c0' := I7.cell hy
              obtain ⟨q0', q1', q2', q3', q4', q5', q6', q7', q8'⟩ := (XI.later kE).nineG
              have kF : Below (wI.alloc (.cells #[.int .i64 x.1, .int .i64 x.2.kind, .int .i64 x.2.valid, .int .i64 x.2.uid, .int .i64 x.2.next, .int .i64 x.2.flags, .string x.2.user, .string x.2.name, .string x.2.text] 68)).heap.size (wI.alloc (.cells #[.int .i64 x.1, .int .i64 x.2.kind, .int .i64 x.2.valid, .int .i64 x.2.uid, .int .i64 x.2.next, .int .i64 x.2.flags, .string x.2.user, .string x.2.name, .string x.2.text] 68)) (wI.alloc (.cells #[.int .i64 x.1, .int .i64 x.2.kind, .int .i64 x.2.valid, .int .i64 x.2.uid, .int .i64 x.2.next, .int .i64 x.2.flags, .string x.2.user, .string x.2.name, .string x.2.text] 68)).drew := (Below.refl _ _).drew
              have I8 := Lib.hid (I7.later kF)
              have MR8 := Lib.hid ((I7.later kF).at' k _ hy)
              have MR9 : Hid (RBuf itE (w3.heap.size + 1) (wI.alloc (.cells #[.int .i64 x.1, .int .i64 x.2.kind, .int .i64 x.2.valid, .int .i64 x.2.uid, .int .i64 x.2.next, .int .i64 x.2.flags, .string x.2.user, .string x.2.name, .string x.2.text] 68)).drew (wI.alloc (.cells #[.int .i64 x.1, .int .i64 x.2.kind, .int .i64 x.2.valid, .int .i64 x.2.uid, .int .i64 x.2.next, .int .i64 x.2.flags, .string x.2.user, .string x.2.name, .string x.2.text] 68)).drew (.slice ay (ndT s.items (ndS S) off j).length cy) (ndT s.items (ndS S) off j)) := by
                have h9 := MR8.out
                rw [if_neg (by omega), if_pos rfl] at h9
                exact h9
              have HL8 := Lib.hid ((RBuf.lit1 itE wI x).later kF).here
              have HXS := Lib.hid ((XS6.later kE).later kF)
              have HHY := Lib.hid hy
              clear I6 I7 MR MR8 XI XS6 kE kF hy hcn
              obtain ⟨us, hus⟩ : ∃ us, ndT s.items (ndS S) off j = us := ⟨_, rfl⟩
              rw [hus] at I8 MR9 HHY c0 c0' HLN HS' HYL
              have HUS := Lib.hid hus
              clear hus
              have hk0 : (0 : Int) ≤ (k : Int) := by omega
              go_region_law (first
                | (refine step_append_rows (by rfl) _ _ itE (by rfl) (w3.heap.size + 1) _ us (by rfl) MR9.out wI.heap.size _ [x] (by rfl) HL8.out (by show _ * 97 ≤ _; simp only [List.length_cons, List.length_nil]; have := HLN.out; omega) ?_; intro v8 w8 r8 g8 at8 lt8; obtain ⟨a8, c8, e8⟩ := r8.form; simp only [List.length_append, List.length_cons, List.length_nil, Nat.zero_add] at e8; subst e8; obtain ⟨d4, f4⟩ := I8.out.cells HHY.out g8))
              all_goals
                have r8' : RBuf itE (w3.heap.size + 1) w8 w8 (.slice a8 (us ++ [x]).length c8) (us ++ [x]) := by simpa using r8
                have at8' : (Value.slice a8 (us ++ [x]).length c8).ownBlock = (Value.slice ay us.length cy).ownBlock ∨ (Value.slice a8 (us ++ [x]).length c8).ownBlock = some (wI.alloc (.cells #[.int .i64 x.1, .int .i64 x.2.kind, .int .i64 x.2.valid, .int .i64 x.2.uid, .int .i64 x.2.next, .int .i64 x.2.flags, .string x.2.user, .string x.2.name, .string x.2.text] 68)).heap.size := by simpa using at8
                have I9 := Lib.hid ((I8.out.app HHY.out a8 c8 (us ++ [x]) r8' g8 at8').same (fun t _ => HS'.out t))
                have X9 : Hid (Box (w8.setCell ⟨w3.heap.size, k, none⟩ (.slice a8 (us ++ [x]).length c8)) gi #[.int .i64 s.no, .int .i64 s.gen, .int .i64 s.ende, .slice (some ⟨gx, ox, none⟩) ml cm] 60) := ((HXS.out.butG g8 (fun b hb e => by have := HYL.out b hb; omega)).other (g := w3.heap.size) (by have := HXG.out; omega) k _)
                have HZ2 : Hid ((∀ (t : Nat) (y : LsH), k + 1 ≤ t → (hs.set k ⟨a8, (us ++ [x]).length, c8⟩)[t]? = some y → y = lsE.z0) ∧ ∀ (y : LsH), (hs.set k ⟨a8, (us ++ [x]).length, c8⟩)[k]? = some y → ∀ b, y.mv.ownBlock = some b → gi < b) := by
                  refine ⟨fun t y ht hy => ?_, fun y hy b hb => ?_⟩
                  · rw [List.getElem?_set_ne (by omega)] at hy
                    exact HZ1.out.1 t y ht hy
                  · rw [List.getElem?_set_self (List.getElem?_eq_some_iff.1 HHY.out).1] at hy
                    obtain rfl := Option.some.inj hy
                    rcases at8' with e | e
                    · exact HYL.out b (e.symm.trans hb)
                    · have h9 : (wI.alloc (.cells #[.int .i64 x.1, .int .i64 x.2.kind, .int .i64 x.2.valid, .int .i64 x.2.uid, .int .i64 x.2.next, .int .i64 x.2.flags, .string x.2.user, .string x.2.name, .string x.2.text] 68)).heap.size = b := Option.some.inj (e.symm.trans hb)
                      have := HXS.out.lt
                      have h10 : gi < (wI.alloc (.cells #[.int .i64 x.1, .int .i64 x.2.kind, .int .i64 x.2.valid, .int .i64 x.2.uid, .int .i64 x.2.next, .int .i64 x.2.flags, .string x.2.user, .string x.2.name, .string x.2.text] 68)).heap.size := this
                      omega
                rw [show (us ++ [x]).length = us.length + 1 by simp] at I9 X9 HZ2
                clear r8 g8 at8 lt8 r8' at8' d4 f4 I8 MR9 HL8 HXS c0 c0' q0 q1 q2 q3 q4 q5 q6 q7 q8 q0' q1' q2' q3' q4' q5' q6' q7' q8' HYL
                go_wp2_with fail
                exact ⟨⟨j + 1, _, by omega, by simp, HZ2, X9.out, I9.out⟩, by first | omega | (simp [intOf]; omega)⟩
          · have hjm : j = ml := by omega
            subst hjm
            obtain ⟨s0, s1, s2, s3, _⟩ := XS.fourG
            have hsl := HG.out
            have HK3 : Hid (∀ t, (if t < k then ndI S.fr S.g.used (ndS S) t else if t = k then ndT s.items (ndS S) off j else []) = (if t < k + 1 then ndI S.fr S.g.used (ndS S) t else [])) := HK2.out.2.1
            have HI := Lib.hid I
            have HR2 : Hid (q - j + (off + j) = nl ∧ Rows' boE w3 (.slice (if c = j then a else a.map (·.add j)) (q - j) (c - j)) ((ndS S).drop (off + j))) := ⟨by omega, by
              have := HRD.out.fromB (i := j) (by rw [List.length_drop, HNL.out]; omega) (by omega)
              rw [List.drop_drop] at this
              exact this⟩
            generalize (if c = j then a else a.map (·.add j)) = a' at hsl HR2
            clear I XS HG
            go_wp2_with fail
            exact ⟨⟨k + 1, a', q - j, c - j, hs, by omega, by simp, rfl, by rw [HK2.out.1]; exact HR2, (fun t y ht => HZ1.out.1 t y (by omega)), HI.out.same (fun t _ => HK3.out t)⟩, by first | omega | (simp [intOf]; omega)⟩
    · have HE : Hid (∀ j, j < n → (if j < k then ndI S.fr S.g.used (ndS S) j else []) = ndI S.fr S.g.used (ndS S) j) := fun j hj => by rw [if_pos (by omega)]
      have HI := Lib.hid I
      clear I
      go_wp2_with fail
      go_ret
      exact ⟨_, rfl, (HI.out.same HE.out).rd HB3.out.size, HB3.out.trans (HI.out.row.bel.mono HB3.out.size)⟩

end Go.Proofs.YtlifgcgoehkinaaGreatDoor
