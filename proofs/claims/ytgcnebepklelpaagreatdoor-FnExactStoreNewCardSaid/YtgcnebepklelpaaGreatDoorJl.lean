/- Texts of our own, joined. -/
import Derived.RangeFuncNested
import Derived.RangeFuncBound
import Derived.RangeFuncCalls
import Derived.RangeFuncLeaves
import Derived.RangeFuncBox
import Derived.Test.YtgcnebepklelpaaGreatDoorJb
import Derived.Test.YtgcnebepklelpaaGreatDoorJk
import Derived.Maps.OwnIn
import Derived.Shelf.Abstract
import Derived.Shelf.RegionOpen
import Derived.OwnWalkIn
import Derived.TacticsInMore
import Derived.LoopNIn
import Derived.LoopIn
import Derived.Sort.QuietIn
import Derived.Sort.CutIn
import Derived.Test.YtgcnebepklelpaaGreatDoorJj
import Derived.Test.YtgcnebepklelpaaGreatDoorJe
import Derived.Test.YtgcnebepklelpaaGreatDoorJf
import Derived.Deep.RegionLaw
import Derived.Test.YtgcnebepklelpaaGreatDoorJd
/- A range over a function that keeps a variable of its own in memory, at the wide fence: what the caller holds to, round by round, while the variable's block is turned by the function alone. -/
namespace Go.Proofs.YtgcnebepklelpaaGreatDoor
open Go.RowKit

end Go.Proofs.YtgcnebepklelpaaGreatDoor

/- Frames: what the program's ScanFrames hands back: a range over a reader that is handed a yield. -/
namespace Go.Proofs.YtgcnebepklelpaaGreatDoor
open Go.RowKit Go.Shelf

attribute [local go_sem] Oper.semAt_some

end Go.Proofs.YtgcnebepklelpaaGreatDoor

/- Segments: whether one is in use, and its frames: SegGen, the model's and the program's. -/
namespace Go.Proofs.YtgcnebepklelpaaGreatDoor
open Go.RowKit

def segB : ByteArray := ⟨#[115, 101, 103]⟩

end Go.Proofs.YtgcnebepklelpaaGreatDoor

/- A list that can be read, appended to one of the call's own. -/
namespace Go.Proofs.YtgcnebepklelpaaGreatDoor
open Go.RowKit

variable {α : Type} {E : Enc α}

theorem run_append_zero {P : Program} {w : World} (base : Nat) (t ty e : TypeId) (i : TypeInfo) (size : Nat) (ht : P.underlying t = some (.slice e)) (hi : P.info? e = some i)
    (v : Value) (n : Nat) (xs : List Value) (hown : w.ownsRow base e size v n xs) (a : Option Addr) (c : Nat) :
    (Builtin.append_ #[t, t] ty #[v, .slice a 0 c]).run P w = .ok v w := by
  rcases hown.2 with ⟨rfl, rfl⟩ | ⟨g, cap, cur, rfl, _, _, hnc, _⟩
  · cases a <;> simp [Builtin.append_, run_underlying ht, sizeOf, typeInfo, hi, Builtin.lenOf, Builtin.firstCells, loadCells, loadCellsFrom]
  · cases a <;> simp [Builtin.append_, run_underlying ht, sizeOf, typeInfo, hi, Builtin.lenOf, Builtin.firstCells, hnc, storeCells, loadCells, loadCellsFrom]

theorem run_append_rd {w : World} (ty : TypeId) (B : Nat) (v : Value) (l : List α) (hb : RBuf E B w w v l) (vx : Value) (m : List α) (hx : Rows' E w vx m)
    (hlen : (l.length + m.length) * (E.bytes + 1) ≤ 140737488355328) :
    ∃ v' w', (Builtin.append_ #[E.sty, E.sty] ty #[v, vx]).run Tryz.prog w = .ok v' w' ∧ RBuf E B w' w' v' (l ++ m) ∧ w.grownBy w' v.ownBlock ∧ (v'.ownBlock = v.ownBlock ∨ v'.ownBlock = some w.heap.size) := by
  obtain ⟨i0, hi, hz0, hz1, hz2⟩ := info_parts E.info
  have e0 : (l.length + m.length) * (E.bytes + 1) = (l.length + m.length) * E.bytes + (l.length + m.length) := Nat.mul_succ _ _
  rcases hx with ⟨rfl, a, c, rfl⟩ | ⟨g, off, cap, rfl, hc, hg, hcl⟩
  · exact ⟨v, w, run_append_zero (P := Tryz.prog) B E.sty ty E.ty i0 E.sz E.und hi v l.length (E.row l) hb.own a c, by simpa using hb, World.grownBy.refl _ _, .inl rfl⟩
  · obtain ⟨v', w', h1, h2, h3, _, h5⟩ := run_append_own_at (P := Tryz.prog) w B E.sty ty E.ty i0 E.zero E.sz E.bytes E.und hi hz0 hz1 hz2 E.zc E.pos v l.length (E.row l) hb.own ⟨g, off, none⟩ m.length cap (E.row m) (E.row_length m)
      (fun j u hu => by
        have hjl : j < m.length * E.sz := by have := (List.getElem?_eq_some_iff.1 hu).1; rwa [E.row_length] at this
        have hp := E.pos
        have hq : j / E.sz < m.length := Nat.div_lt_of_lt_mul (by rw [Nat.mul_comm]; exact hjl)
        have hr : j % E.sz < E.sz := Nat.mod_lt _ hp
        have hj : j / E.sz * E.sz + j % E.sz = j := Nat.div_add_mod' j E.sz
        have hgq : m[j / E.sz]? = some m[j / E.sz] := List.getElem?_eq_getElem hq
        have h6 := E.row_at m (j / E.sz) _ hgq (j % E.sz) hr
        rw [hj, hu] at h6
        have h7 := hcl (j / E.sz) _ hgq (j % E.sz) u h6.symm
        rw [Nat.add_assoc, hj] at h7
        rw [Addr.add_lit]
        exact h7) (E.row_one' m) (by unfold maxLen; omega) (by omega) hb.le
    refine ⟨v', w', h1, ⟨?_, Below.refl _ _, Nat.le_trans hb.le h3.size⟩, h3, h5⟩
    rw [List.length_append, E.row_append]
    exact h2

theorem wp_append_rd {w : World} {o : Oper} {a : Act} {K : Act → World → Prop} {Q : Exit → Act → World → Prop} (s x : Operand) (E : Enc α)
    (ho : o.op = .call { callee := .builtin .append, args := #[s, x], argTypes := #[E.sty, E.sty] })
    (B : Nat) (v : Value) (l : List α) (hs : a.eval s = v) (hb : RBuf E B w w v l) (vx : Value) (m : List α) (hxv : a.eval x = vx) (hx : Rows' E w vx m)
    (hlen : (l.length + m.length) * (E.bytes + 1) ≤ 140737488355328)
    (h : ∀ v' w', RBuf E B w' w' v' (l ++ m) → w.grownBy w' v.ownBlock → (v'.ownBlock = v.ownBlock ∨ v'.ownBlock = some w.heap.size) → K (a.put o.dst v') w') : o.wp Tryz.prog a w K Q := by
  obtain ⟨v', w', hr, h2, h3, h4⟩ := run_append_rd o.type B v l hb vx m hx hlen
  unfold Oper.wp execOp
  simp only [ho, resolve, invoke, builtin, Sem.run_bind, Sem.run_pure, Result.andThen_ok, List.map_toArray, List.map_cons, List.map_nil, hs, hxv, hr]
  exact h v' w' h2 h3 h4

end Go.Proofs.YtgcnebepklelpaaGreatDoor

/- A new head of a log, plainly. -/
namespace Go.Proofs.YtgcnebepklelpaaGreatDoor
open Go.RowKit

def hdF (g : Int) : Fr := ⟨g, 1, segB⟩
def hdT (g : Int) : ByteArray := (hdF g).tx
theorem hdF_ok {g : Int} (h : 1 ≤ g ∧ g ≤ 1000000000) : (hdF g).ok := ⟨h, ⟨(by decide : (1 : Int) ≤ 1), (by decide : (1 : Int) ≤ 1000000000)⟩, (by decide : 1 ≤ segB.size), (by decide : segB.size ≤ 180)⟩
theorem hdT_size {g : Int} (h : 1 ≤ g ∧ g ≤ 1000000000) : (hdT g).size ≤ 196 := by
  obtain ⟨t, b, h1, h2⟩ := ftT_form (hdF g)
  rw [ftT_yes (hdF_ok h)] at h1
  cases h1
  exact h2

theorem frT_mem {u : List Sg} : ∀ (n : Nat) (k : Int), k ∈ frT u n → 0 ≤ k ∧ k < (n : Int)
  | 0, k, h => by cases h
  | n + 1, k, h => by
    have h1 : k ∈ frT u n ++ (if hasB u (n : Int) then [] else [(n : Int)]) := h
    rcases List.mem_append.1 h1 with h2 | h2
    · have := frT_mem n k h2; omega
    · cases hb : hasB u (n : Int) with
      | true => rw [hb] at h2; cases h2
      | false => rw [hb] at h2; simp at h2; omega
def opN (L : Lg) : Nat := ((fr L).headD 0).toNat
theorem opN_at {L : Lg} (h : 0 < (fr L).length) : (fr L)[0]? = some (opN L : Int) ∧ opN L < frN L.segs := by
  unfold opN
  have hm : ∀ k ∈ fr L, 0 ≤ k ∧ k < (frN L.segs : Int) := fun k hk => frT_mem _ _ hk
  cases hf : fr L with
  | nil => rw [hf] at h; simp at h
  | cons k l =>
    have hk := hm k (by rw [hf]; simp)
    simp only [List.getElem?_cons_zero, List.headD_cons, Option.some.injEq]
    omega
structure OpH (L : Lg) : Prop where
  ok : L.d.ok
  segs : 0 ≤ L.segs ∧ L.segs ≤ 11
  room : 8 + 8 * L.segs.toNat ≤ L.d.sec.length
  gen : 1 ≤ L.ng ∧ L.ng ≤ 1000000000
theorem OpH.first {L : Lg} (h : OpH L) (hf : 0 < (fr L).length) : opN L ≤ 10 ∧ 8 + 8 * opN L < L.d.sec.length := by
  have h1 := (opN_at hf).2
  have h2 : frN L.segs = L.segs.toNat := by unfold frN; have := h.segs; omega
  have := h.room
  have := h.segs
  omega
def opL (L : Lg) (d : Dk) : Lg := ⟨flD d, L.segs, L.used ++ [⟨(opN L : Int), L.ng, ((hdT L.ng).size : Int), []⟩], L.ng + 1, L.ns, L.st, L.nv⟩
def opO (L : Lg) (keep : Int) : Option Lg := if 0 ≤ keep ∧ keep < ((fr L).length : Int) ∧ L.ng < 1000000000 then (sgW L.d (opN L) 0 (hdT L.ng)).map (opL L) else none
theorem opO_no {L : Lg} {keep : Int} (h : ¬ (0 ≤ keep ∧ keep < ((fr L).length : Int) ∧ L.ng < 1000000000)) : opO L keep = none := if_neg h
theorem opO_none {L : Lg} {keep : Int} (h : sgW L.d (opN L) 0 (hdT L.ng) = none) : opO L keep = none := by unfold opO; rw [h]; exact ite_self _
theorem opO_some {L : Lg} {keep : Int} {d : Dk} (h0 : 0 ≤ keep ∧ keep < ((fr L).length : Int) ∧ L.ng < 1000000000) (h : sgW L.d (opN L) 0 (hdT L.ng) = some d) : opO L keep = some (opL L d) := by unfold opO; rw [if_pos h0, h]; rfl

def lgC (va vb vu : Value) (L : Lg) : Array Value := #[va, vb, .int .i64 L.segs, vu, .int .i64 L.ng, .int .i64 L.ns, .int .i64 L.st, .int .i64 L.nv]
theorem Box.eightO {w : World} {b : Nat} {u0 u1 u2 u3 u4 u5 u6 u7 : Value} {t : TypeId} (h : Box w b #[u0, u1, u2, u3, u4, u5, u6, u7] t) :
    w.cell? ⟨b, 0, none⟩ = some u0 ∧ w.cell? ⟨b, 1, none⟩ = some u1 ∧ w.cell? ⟨b, 2, none⟩ = some u2 ∧ w.cell? ⟨b, 3, none⟩ = some u3 ∧ w.cell? ⟨b, 4, none⟩ = some u4 ∧ w.cell? ⟨b, 5, none⟩ = some u5 ∧ w.cell? ⟨b, 6, none⟩ = some u6 ∧ w.cell? ⟨b, 7, none⟩ = some u7 :=
  ⟨h.cell 0 _ rfl, h.cell 1 _ rfl, h.cell 2 _ rfl, h.cell 3 _ rfl, h.cell 4 _ rfl, h.cell 5 _ rfl, h.cell 6 _ rfl, h.cell 7 _ rfl⟩
def OpR (L : Lg) (keep : Int) (pg B T : Nat) (tL : TypeId) (va vb vu : Value) (hs : List SgH) (w : World) (e : Ending) (w' : World) : Prop :=
  w.grownBy w' (some pg) ∧
  ((opO L keep = none ∧ e = .returned (.bool false) ∧ Box w' pg (lgC va vb vu L) tL ∧ LgP B T w' va vb vu L hs) ∨
   ∃ L' va' vb' vu' hs', opO L keep = some L' ∧ e = .returned (.bool true) ∧ Box w' pg (lgC va' vb' vu' L') tL ∧ LgP B w'.heap.size w' va' vb' vu' L' hs')

theorem step_append_rdO {α : Type} {w : World} {ops : Array Oper} {o : Oper} {a : Act} {K : Act → World → Prop} {Q : Exit → Act → World → Prop} {X : Prop} (hgd : o.guard = none) (s x : Operand) (E : Enc α)
    (ho : o.op = .call { callee := .builtin .append, args := #[s, x], argTypes := #[E.sty, E.sty] })
    (B : Nat) (v : Value) (l : List α) (hs : a.eval s = v) (hb : RBuf E B w w v l) (vx : Value) (m : List α) (hxv : a.eval x = vx) (hx : Rows' E w vx m)
    (hlen : (l.length + m.length) * (E.bytes + 1) ≤ 140737488355328)
    (h : ∀ v' w', RBuf E B w' w' v' (l ++ m) → w.grownBy w' v.ownBlock → (v'.ownBlock = v.ownBlock ∨ v'.ownBlock = some w.heap.size) → (∀ k, v.ownBlock = some k → B ≤ k ∧ k < w.heap.size) → K (a.put o.dst v') w') :
    if Region.wanted o (yielded ops a.tmps) = true then Oper.wp Tryz.prog o a w K Q else X := by
  have hw : Region.wanted o (yielded ops a.tmps) = true := by simp [Region.wanted, hgd]
  rw [if_pos hw]
  exact wp_append_rd s x E ho B v l hs hb vx m hxv hx hlen fun v' w' h2 h3 h4 => h v' w' h2 h3 h4 (fun k hk => hb.own.lt k hk)
theorem DOwn.stayO {B T : Nat} {w w' : World} {v : Value} {d : Dk} (h : DOwn B T w v d) (hz : w.heap.size ≤ w'.heap.size) (hk : ∀ q, B ≤ q → q < T → w'.heap[q]? = w.heap[q]?) : DOwn B T w' v d := by
  obtain ⟨va, vb, e, h1, h2, h3⟩ := h
  exact ⟨va, vb, e, ⟨h1.1.stayG hz (fun q e => hk q (h1.1.own.lt q e).1 (h1.2.2 q e)), Nat.le_trans h1.2.1 hz, h1.2.2⟩, ⟨h2.1.stayG hz (fun q e => hk q (h2.1.own.lt q e).1 (h2.2.2 q e)), Nat.le_trans h2.2.1 hz, h2.2.2⟩, h3⟩
theorem LgP.mkO {B C T0 T1 : Nat} {w : World} {va vb vu : Value} {L : Lg} {hs : List SgH} (hd : DOwn C T1 w (.agg #[va, vb]) L.d) (hg : GOwn B w.heap.size w vu L.used hs) (hB : B ≤ C) (h0 : T0 ≤ C) (h1 : ∀ k, vu.ownBlock = some k → T1 ≤ k) (h2 : ∀ (j : Nat) (x : SgH), hs[j]? = some x → ∀ k, x.mv.ownBlock = some k → k < T0) : LgP B w.heap.size w va vb vu L hs := by
  obtain ⟨ua, ub, e, l1, l2, l3⟩ := hd
  simp only [Value.agg.injEq, Array.mk.injEq, List.cons.injEq, and_true] at e
  obtain ⟨rfl, rfl⟩ := e
  refine ⟨(l1.deeper hB).wider l1.2.1 (Nat.le_refl _), (l2.deeper hB).wider l2.2.1 (Nat.le_refl _), l3, hg, fun k hk => ?_⟩
  have hlt : C ≤ k ∧ k < T1 := by
    rcases hk with e | e
    · exact ⟨(l1.1.own.lt k e).1, l1.2.2 k e⟩
    · exact ⟨(l2.1.own.lt k e).1, l2.2.2 k e⟩
  refine ⟨fun e => ?_, fun j x hj e => ?_⟩
  · have := h1 k e; omega
  · have := h2 j x hj k e; omega
theorem GOwn.grow {B T C : Nat} {w w' : World} {v v' : Value} {bs : List Sg} {hs : List SgH} (h : GOwn B T w v bs hs) (hz : w.heap.size ≤ w'.heap.size) (hk : ∀ q, B ≤ q → q < T → w'.heap[q]? = w.heap[q]?) (b : Sg) (x : SgH)
    (hx : x.no = b.no ∧ x.gen = b.gen ∧ x.ende = b.ende) (hm : x.mv = .slice none 0 0) (hi : b.items = []) (hr : RBuf sgE C w' w' v' (hs ++ [x])) (hC : T ≤ C) (hB : B ≤ C) : GOwn B w'.heap.size w' v' (bs ++ [b]) (hs ++ [x]) := by
  have old : ∀ {j : Nat} {y : SgH}, (hs ++ [x])[j]? = some y → (hs[j]? = some y ∧ j < hs.length) ∨ (j = hs.length ∧ y = x) := fun {j y} hj => by
    by_cases c : j < hs.length
    · rw [List.getElem?_append_left c] at hj
      exact .inl ⟨hj, c⟩
    · rw [List.getElem?_append_right (by omega)] at hj
      have hj0 : j - hs.length = 0 := by
        have := (List.getElem?_eq_some_iff.1 hj).1
        simp at this; omega
      rw [hj0] at hj
      simp at hj
      exact .inr ⟨by omega, hj.symm⟩
  have nob : ∀ k, x.mv.ownBlock ≠ some k := fun k e => by rw [hm] at e; cases e
  have hown : SgO B w' v' (bs ++ [b]) (hs ++ [x]) := by
    refine ⟨hr.lower hB, by simp [h.own.len], fun j y c h1 h2 => ?_, fun j y h1 k hk2 => ?_, fun i j y z h1 h2 hij k hk2 => ?_⟩
    · rcases old h1 with ⟨h3, hl⟩ | ⟨rfl, rfl⟩
      · rw [List.getElem?_append_left (by rw [← h.own.len]; exact hl)] at h2
        obtain ⟨p1, p2⟩ := h.own.at' j y c h3 h2
        exact ⟨p1, p2.stayG hz (fun q hq => hk q (p2.own.lt q hq).1 (h.its j y h3 q hq))⟩
      · rw [List.getElem?_append_right (by rw [h.own.len]; omega), h.own.len] at h2
        simp at h2
        subst h2
        refine ⟨hx, ?_⟩
        rw [hm, hi]
        exact ⟨World.ownsRow_nil _ _ _ _, Below.refl _ _, Nat.le_trans h.own.row.le hz⟩
    · rcases old h1 with ⟨h3, _⟩ | ⟨_, rfl⟩
      · intro e
        have := h.its j y h3 k hk2
        have := (hr.own.lt k e).1
        omega
      · exact absurd hk2 (nob k)
    · rcases old h1 with ⟨h3, _⟩ | ⟨_, rfl⟩
      · rcases old h2 with ⟨h4, _⟩ | ⟨_, rfl⟩
        · exact h.own.apart i j y z h3 h4 hij k hk2
        · exact nob k
      · exact absurd hk2 (nob k)
  exact hown.gown

theorem grownBy_storeO {W x : World} {pg : Nat} (h : W.grownBy x (some pg)) (i : Nat) (u : Value) : W.grownBy (x.setCell ⟨pg, i, none⟩ u) (some pg) := h.trans (stored_grown x pg i u)
def KO (W : World) (pg : Nat) (ng : Value) (x : World) : Prop := W.grownBy x (some pg) ∧ x.cell? ⟨pg, 4, none⟩ = some ng
theorem KO.drew {W : World} {pg : Nat} {ng : Value} (h : W.cell? ⟨pg, 4, none⟩ = some ng) : KO W pg ng W.drew := ⟨⟨rfl, rfl, rfl, Nat.le_refl _, fun _ _ _ => rfl⟩, h⟩
theorem KO.later {W x y : World} {pg : Nat} {ng : Value} (h : KO W pg ng x) (hb : Below x.heap.size x y) : KO W pg ng y :=
  ⟨⟨hb.os.trans h.1.os, hb.tape.trans h.1.tape, hb.output.trans h.1.output, Nat.le_trans h.1.size hb.size, fun k hk hr => (hb.block k (Nat.lt_of_lt_of_le hk h.1.size)).trans (h.1.block k hk hr)⟩, (hb.cell (p := ⟨pg, 4, none⟩) (World.block_lt_of_cell? _ _ h.2)).trans h.2⟩
theorem KO.grown {W x y : World} {pg : Nat} {ng : Value} {r : Option Nat} (h : KO W pg ng x) (hg : x.grownBy y r) (hr : ∀ k, r = some k → W.heap.size ≤ k) (hp : pg < W.heap.size) : KO W pg ng y :=
  ⟨⟨hg.os.trans h.1.os, hg.tape.trans h.1.tape, hg.output.trans h.1.output, Nat.le_trans h.1.size hg.size, fun k hk hn => (hg.block k (Nat.lt_of_lt_of_le hk h.1.size) (fun e => by have := hr k e.symm; omega)).trans (h.1.block k hk hn)⟩, hg.cell h.2 (fun e => by have := hr pg e.symm; omega)⟩
theorem KO.put {W x : World} {pg : Nat} {ng : Value} (h : KO W pg ng x) (u : Value) : KO W pg ng (x.setCell ⟨pg, 3, none⟩ u) :=
  ⟨grownBy_storeO h.1 3 u, by rw [World.cell?_setCell_other _ _ _ _ (by simp)]; exact h.2⟩
theorem KO.cell {W x : World} {pg g o : Nat} {ng u : Value} (h : KO W pg ng x) (hc : W.cell? ⟨g, o, none⟩ = some u) (hne : g ≠ pg) : x.cell? ⟨g, o, none⟩ = some u :=
  h.1.cell hc (fun e => hne (Option.some.inj e))
theorem RBuf.ko {α : Type} {E : Enc α} {B pg : Nat} {W x : World} {ng v : Value} {l : List α} (h : RBuf E B W W v l) (hk : KO W pg ng x) (hne : v.ownBlock ≠ some pg) : RBuf E B x x v l :=
  h.stayG hk.1.size (fun k e => hk.1.block k (h.own.lt k e).2 (fun e2 => hne (by rw [e, Option.some.inj e2])))
theorem readyThree {P : Program} {md : Region.Mode} {l : List Oper} {Q : Exit → Act → World → Prop} {S : World → Prop} {i j k : Nat} {o o' o2 : Oper} {fuel : Nat} {listed : Array Bool} {a : Act} {w : World} (hi : l[i]? = some o) (hj : l[j]? = some o') (hk : l[k]? = some o2)
    (h : ∀ K' : Act → World → Prop, Shut (∀ a w, S w → (S w → wpAnyH P md l.toArray Q S fuel (listed.setIfInBounds i true) a w) → K' a w) → if Region.wanted o (yielded l.toArray a.tmps) = true then Oper.wp P o a w K' Q else K' (a.put o.dst undef) w)
    (h' : ∀ K' : Act → World → Prop, Shut (∀ a w, S w → (S w → wpAnyH P md l.toArray Q S fuel (listed.setIfInBounds j true) a w) → K' a w) → if Region.wanted o' (yielded l.toArray a.tmps) = true then Oper.wp P o' a w K' Q else K' (a.put o'.dst undef) w)
    (h2 : ∀ K' : Act → World → Prop, Shut (∀ a w, S w → (S w → wpAnyH P md l.toArray Q S fuel (listed.setIfInBounds k true) a w) → K' a w) → if Region.wanted o2 (yielded l.toArray a.tmps) = true then Oper.wp P o2 a w K' Q else K' (a.put o2.dst undef) w) :
    AllReadyH P md l.toArray Q S fuel listed a w [i, j, k] :=
  AllReadyH.cons (by rw [List.getElem?_toArray]; exact hi) h (readyTwo hj hk h' h2)

end Go.Proofs.YtgcnebepklelpaaGreatDoor

/- What DiskNew hands back, the model's and the program's. -/
namespace Go.Proofs.YtgcnebepklelpaaGreatDoor
open Go.RowKit

def zero32 : ByteArray := ⟨(List.replicate 32 0).toArray⟩
def newD (n : Int) : Dk := if 1 ≤ n ∧ n ≤ 100 then ⟨List.replicate n.toNat zero32, []⟩ else ⟨[], []⟩

theorem zero_any (w : World) : Calls Tryz.prog 34 #[] w fun e w' => e = .returned (.string zero32) ∧ Below w.heap.size w w' := by
  go_enter Tryz.func34, Tryz.ntmps34
  go_wp2_with (go_at_call 59; refine (long_any 32 0 _ (by omega)).mono ?_; rintro e w1 ⟨rfl, k1⟩)
  go_ret
  exact ⟨rfl, k1⟩

theorem nilOwn {α : Type} {E : Enc α} {B T : Nat} {w : World} (hB : B ≤ w.heap.size) (hT : T ≤ w.heap.size) : LOwn E B T w (.slice none 0 0) [] := ⟨⟨World.ownsRow_nil _ _ _ _, Below.refl _ _, hB⟩, hT, fun k hk => by cases hk⟩
theorem apNil (v : Value) : v.ownBlock = none ∨ v.ownBlock ≠ (Value.slice none 0 0).ownBlock := by
  cases hv : v.ownBlock with
  | none => exact .inl rfl
  | some k => exact .inr (by simp [Value.ownBlock])

set_option maxHeartbeats 1000000 in
theorem implDiskNew_any (n : Int) (w : World) : Calls Tryz.prog 22 #[.int .i64 n] w fun e w' => DiskR (newD n) (decide (1 ≤ n ∧ n ≤ 100)) w e w' := by
  have hx := Box.new w #[.slice none 0 0, .slice none 0 0] 25
  have b0 : Below w.heap.size w (w.alloc (.cells #[.slice none 0 0, .slice none 0 0] 25)) := (Below.refl _ _).alloc (Nat.le_refl _) _
  have hsz : (w.alloc (.cells #[.slice none 0 0, .slice none 0 0] 25)).heap.size = w.heap.size + 1 := by simp
  by_cases hin : 1 ≤ n ∧ n ≤ 100
  · obtain ⟨k, rfl⟩ := Int.eq_ofNat_of_zero_le (show 0 ≤ n by omega)
    have E2 := Lib.hid (show newD (k : Int) = ⟨List.replicate k zero32, []⟩ from by unfold newD; rw [if_pos hin, Int.toNat_natCast])
    have hk1 : 1 ≤ k := by omega
    have hk2 : k ≤ 100 := by omega
    have HD := Lib.hid (decide_eq_true hin)
    have HB := Lib.hid b0
    have HX := Lib.hid hx
    have HSZ := Lib.hid hsz
    clear hx b0 hsz
    go_enter Tryz.func22, Tryz.ntmps22
    go_wp2_with (first
      | (at_make; refine wpList_make_rows rfl _ _ secE rfl .i64 .i64 _ _ k rfl rfl rfl rfl (by show 33 * k ≤ _; omega) ?_; intro w1 r1 z1; have R1 := Lib.hid r1; have r1' := r1.here; rw [HSZ.out] at r1'; have R1' := Lib.hid r1'; clear r1 r1' z1)
      | (go_at_call 43; refine (sectorTexts_any (List.replicate k secE.z0) _ _ _ R1'.out (by simp; omega)).mono ?_; rintro e w2 ⟨v2, rfl, r2⟩; have hll : ((List.replicate k secE.z0).map Sec.str).length = k := by simp
         obtain ⟨a2, q2, rfl⟩ := r2.form; rw [hll] at r2 ⊢; have x2 := ((HX.out.later R1.out.bel).later r2.bel); have r0 := x2.cell 0 (.slice none 0 0) rfl; have r3 := x2.cell 1 (.slice none 0 0) rfl; have f0 := x2.loose 0; have f1 := x2.loose 1))
    have bW := HB.out.trans (R1.out.bel.mono HB.out.size)
    have bF := bW.trans (r2.bel.mono bW.size)
    have hl : w.heap.size < w1.heap.size := by have := R1.out.bel.size; have := HSZ.out; omega
    refine bodyPost_ret (v := .tuple #[.agg #[.slice a2 k q2, .slice none 0 0], .bool true]) (by simp [results, Tryz.results22, go_sem, r0, r3]) rfl ?_
    rw [E2.out, HD.out]
    have hmap : (List.replicate k secE.z0).map Sec.str = List.replicate k zero32 := by rw [List.map_replicate]; rfl
    rw [hmap] at r2
    have q := (r2.lown.store w.heap.size 0 (.slice a2 k q2) hl).store w.heap.size 1 (.slice none 0 0) hl
    have bE := (bF.setCell (p := ⟨w.heap.size, 0, none⟩) (Nat.le_refl _) (.slice a2 k q2)).setCell (p := ⟨w.heap.size, 1, none⟩) (Nat.le_refl _) (.slice none 0 0)
    refine ⟨_, rfl, ⟨_, _, rfl, (q.deeper (Nat.le_of_lt hl)).wider (by simp) (Nat.le_refl _), nilOwn bE.size (Nat.le_refl _), apNil _⟩, bE⟩
  · have E2 := Lib.hid (show newD n = ⟨[], []⟩ from if_neg hin)
    have HD := Lib.hid (decide_eq_false hin)
    go_enter Tryz.func22, Tryz.ntmps22
    go_wp2
    all_goals
      refine bodyPost_ret (v := .tuple #[.agg #[.slice none 0 0, .slice none 0 0], .bool false]) (by simp [results, Tryz.results22, go_sem]) rfl ?_
      rw [E2.out]
      try rw [HD.out]
      exact ⟨_, rfl, ⟨_, _, rfl, nilOwn b0.size (Nat.le_refl _), nilOwn b0.size (Nat.le_refl _), apNil _⟩, b0⟩

set_option maxRecDepth 100000 in
set_option maxHeartbeats 2000000 in
theorem specDiskNew_any (n : Int) (w : World) : Calls Tryz.prog 18 #[.int .i64 n] w fun e w' => DiskR (newD n) (decide (1 ≤ n ∧ n ≤ 100)) w e w' := by
  have b00 : Below w.heap.size w (w.alloc (.cells #[.slice none 0 0, .slice none 0 0] 25)) := (Below.refl _ _).alloc (Nat.le_refl _) _
  by_cases hin : 1 ≤ n ∧ n ≤ 100
  · obtain ⟨k, rfl⟩ := Int.eq_ofNat_of_zero_le (show 0 ≤ n by omega)
    have E2 := Lib.hid (show newD (k : Int) = ⟨List.replicate k zero32, []⟩ from by unfold newD; rw [if_pos hin, Int.toNat_natCast])
    have hk1 : 1 ≤ k := by omega
    have hk2 : k ≤ 100 := by omega
    have HD := Lib.hid (decide_eq_true hin)
    obtain ⟨hx0, hx1, b0, hsz⟩ := two_boxes w #[.slice none 0 0, .slice none 0 0] #[.slice none 0 0, .slice none 0 0] 25 25
    clear b00
    go_enter Tryz.func18, Tryz.ntmps18
    go_wp2_with (go_at_call 17; refine (in_yes _ _ _ _ (by omega) (by omega)).mono ?_; rintro e w5 ⟨rfl, rfl⟩)
    generalize ((w.alloc (.cells #[.slice none 0 0, .slice none 0 0] 25)).alloc (.cells #[.slice none 0 0, .slice none 0 0] 25)) = W at hx0 hx1 b0 hsz ⊢
    have X0 := Lib.hid hx0
    have X1 := Lib.hid hx1
    have HSZ := Lib.hid hsz
    have B0 := Lib.hid b0
    clear hx0 hx1 hsz b0
    go_loopw [5] (fun iv wr => ∃ i : Nat, i ≤ k ∧ iv = .int .i64 (i : Int) ∧ ∃ (a : Option Addr) (q : Nat), Box wr (w.heap.size + 1) #[.slice a i q, .slice none 0 0] 25 ∧ RBuf strE W.heap.size wr wr (.slice a i q) (List.replicate i zero32) ∧ Box wr w.heap.size #[.slice none 0 0, .slice none 0 0] 25 ∧ Below w.heap.size w wr) (fun iv _ => k - (intOf iv).toNat)
    case atStart => exact ⟨0, by omega, rfl, none, 0, X1.out, ⟨World.ownsRow_nil _ _ _ _, Below.refl _ _, Nat.le_refl _⟩, X0.out, B0.out⟩
    case round =>
      obtain ⟨i, hi, rfl, a, q, bx, rb, by0, bel⟩ := hrel
      have hW : w.heap.size + 1 < W.heap.size := by have := HSZ.out; omega
      by_cases hlt : i < k
      · have c0 := bx.cell 0 (.slice a i q) rfl
        have hlr : (List.replicate i zero32).length = i := List.length_replicate
        have HC : Hid (∀ (x : World) (o : Obj), Below wr.drew.heap.size wr.drew x → RBuf strE W.heap.size (x.alloc o) (x.alloc o) (.slice a i q) (List.replicate i zero32) ∧ x.cell? ⟨w.heap.size + 1, 0, none⟩ = some (.slice a i q) ∧ (x.alloc o).cell? ⟨w.heap.size + 1, 0, none⟩ = some (.slice a i q)) := by
          intro x o hx
          have hx2 : Below wr.heap.size wr x := ((Below.refl _ _).drew).trans hx
          exact ⟨((rb.later hx2).alloc o).here, (bx.later hx2).cell 0 _ rfl, ((bx.later hx2).later ((Below.refl _ _).alloc (Nat.le_refl _) _)).cell 0 _ rfl⟩
        have HC6 : Hid (∀ (x y : World) (o : Obj), Below wr.drew.heap.size wr.drew x → (x.alloc o).grownBy y (Value.slice a i q).ownBlock → Box y (w.heap.size + 1) #[.slice a i q, .slice none 0 0] 25 ∧ Box y w.heap.size #[.slice none 0 0, .slice none 0 0] 25 ∧ Below w.heap.size w y) := by
          intro x y o hx hg
          have hx2 : Below wr.heap.size wr x := ((Below.refl _ _).drew).trans hx
          have hxo : Below wr.heap.size wr (x.alloc o) := hx2.trans (((Below.refl x.heap.size x).alloc (Nat.le_refl _) o).mono hx2.size)
          have bo := bx.later hxo
          have bo0 := by0.later hxo
          have hb := bel.trans (hxo.mono bel.size)
          refine ⟨(hg.block _ bo.lt (fun e => by have := (rb.own.lt _ e.symm).1; omega)).trans bo, (hg.block _ bo0.lt (fun e => by have := (rb.own.lt _ e.symm).1; omega)).trans bo0, hb.grown hg hb.size (fun j hj => by have := (rb.own.lt j hj).1; omega)⟩
        clear bx rb by0 bel
        go_wp2
        go_region_law (first
          | (go_simp; go_at_call 34; refine (zero_any _).mono ?_; rintro e w5 ⟨rfl, k5⟩; have c5 := (HC.out _ (.cells #[] 0) k5).2.1; have d5 := (HC.out _ (.cells #[.string zero32] 9) k5).2.2; dsimp only)
          | (refine step_append_rows (by rfl) _ _ strE (by rfl) W.heap.size _ (List.replicate i zero32) (by rfl) (HC.out _ _ k5).1 w5.heap.size _ [zero32] (by rfl) (RBuf.lit1 strE w5 zero32) (by simp [strE]; omega) ?_; intro v6 w6 hr6 hg6 at6 lt6; obtain ⟨a6, q6, rfl⟩ := hr6.form; obtain ⟨bx6, by6, bel6⟩ := HC6.out _ _ _ k5 hg6; have z1 := bx6.cell 0 (.slice a i q) rfl; have f1 := bx6.loose 0))
        all_goals
          have e6 : (List.replicate i zero32 ++ [zero32]).length = i + 1 := by simp
          have e7 : List.replicate i zero32 ++ [zero32] = List.replicate (i + 1) zero32 := List.replicate_succ'.symm
          rw [e7, List.length_replicate] at hr6
          have g1 := bx6.set 0 (.slice a6 (i + 1) q6)
          have g2 := by6.other (g := w.heap.size + 1) (by omega) 0 (.slice a6 (i + 1) q6)
          have nO : (Value.slice a6 (i + 1) q6).ownBlock ≠ some (w.heap.size + 1) := fun e => by have := (hr6.own.lt _ e).1; omega
          have g3 := (hr6.lown.grown (stored_grown w6 (w.heap.size + 1) 0 (.slice a6 (i + 1) q6)) (.inr nO)).1
          have g4 := bel6.setCell (p := ⟨w.heap.size + 1, 0, none⟩) (by simp) (.slice a6 (i + 1) q6)
          have G := Lib.hid (show Box (w6.setCell ⟨w.heap.size + 1, 0, none⟩ (.slice a6 (i + 1) q6)) (w.heap.size + 1) #[.slice a6 (i + 1) q6, .slice none 0 0] 25 ∧ _ ∧ _ ∧ _ from ⟨by simpa using g1, g3, g2, g4⟩)
          clear g1 g2 g3 g4 bx6 by6 bel6 hr6 hg6 at6 lt6 nO HC HC6 e6 e7
          go_wp2
          go_roundw
          case rel => exact ⟨i + 1, by omega, by go_num, a6, q6, G.out⟩
          case measure => simp [intOf]; omega
      · have hie : i = k := by omega
        subst hie
        have m0 := bx.cell 0 (.slice a i q) rfl
        have m1 := bx.cell 1 (.slice none 0 0) rfl
        have r0 := by0.cell 0 (.slice none 0 0) rfl
        have r1 := by0.cell 1 (.slice none 0 0) rfl
        have f0 := by0.loose 0
        have f1 := by0.loose 1
        have RB := Lib.hid rb
        have BL := Lib.hid bel
        clear bx rb by0 bel
        go_wp2
        refine bodyPost_ret (v := .tuple #[.agg #[.slice a i q, .slice none 0 0], .bool true]) (by simp [results, Tryz.results18, go_sem, r0, r1]) rfl ?_
        rw [E2.out, HD.out]
        have q1 := (RB.out.lown.store w.heap.size 0 (.slice a i q) (by omega)).store w.heap.size 1 (.slice none 0 0) (by omega)
        have bE := (BL.out.setCell (p := ⟨w.heap.size, 0, none⟩) (Nat.le_refl _) (.slice a i q)).setCell (p := ⟨w.heap.size, 1, none⟩) (Nat.le_refl _) (.slice none 0 0)
        exact ⟨_, rfl, ⟨_, _, rfl, (q1.deeper (by omega)).wider (by simp) (Nat.le_refl _), nilOwn bE.size (Nat.le_refl _), apNil _⟩, bE⟩
  · have E2 := Lib.hid (show newD n = ⟨[], []⟩ from if_neg hin)
    have HD := Lib.hid (decide_eq_false hin)
    go_enter Tryz.func18, Tryz.ntmps18
    go_wp2_with (go_at_call 17; refine (in_no _ _ _ _ hin).mono ?_; rintro e w5 ⟨rfl, rfl⟩)
    refine bodyPost_ret (v := .tuple #[.agg #[.slice none 0 0, .slice none 0 0], .bool false]) (by simp [results, Tryz.results18, go_sem]) rfl ?_
    rw [E2.out, HD.out]
    exact ⟨_, rfl, ⟨_, _, rfl, nilOwn b00.size (Nat.le_refl _), nilOwn b00.size (Nat.le_refl _), apNil _⟩, b00⟩

end Go.Proofs.YtgcnebepklelpaaGreatDoor

/- What is fixed of a log: while its references are gathered. -/
namespace Go.Proofs.YtgcnebepklelpaaGreatDoor
open Go.RowKit

def ckOf (L : Lg) : Ck := ⟨IntKind.i64.wrap (L.st + 1), L.ng, L.ns, L.nv, L.used.map (fun s => (s.no, s.gen))⟩

theorem refs_take {u : List Sg} {i : Nat} {s : Sg} (h : u[i]? = some s) : (u.take (i + 1)).map (fun s => (s.no, s.gen)) = (u.take i).map (fun s => (s.no, s.gen)) ++ [(s.no, s.gen)] := by
  rw [List.take_add_one, h]
  simp
theorem Box.butC {w X : World} {b : Nat} {cs : Array Value} {t : TypeId} {r : Option Nat} (h : Box w b cs t) (hg : w.grownBy X r) (hne : ∀ k, r = some k → k ≠ b) : Box X b cs t := (hg.block b h.lt (fun e => hne b e.symm rfl)).trans h
theorem Box.set5C {w : World} {b : Nat} {u0 u1 u2 u3 u4 : Value} {t : TypeId} (h : Box w b #[u0, u1, u2, u3, u4] t) (v0 v1 v2 v3 v4 : Value) : Box (((((w.setCell ⟨b, 0, none⟩ v0).setCell ⟨b, 1, none⟩ v1).setCell ⟨b, 2, none⟩ v2).setCell ⟨b, 3, none⟩ v3).setCell ⟨b, 4, none⟩ v4) b #[v0, v1, v2, v3, v4] t := ((((h.set 0 v0).set 1 v1).set 2 v2).set 3 v3).set 4 v4
theorem RBuf.set5C {α : Type} {E : Enc α} {B g : Nat} {w0 x : World} {v : Value} {l : List α} (h : RBuf E B x x v l) (hb : Below w0.heap.size w0 x) (hB : w0.heap.size ≤ B) (hg : g < B) (hw : w0.heap.size ≤ g) (v0 v1 v2 v3 v4 : Value) : RBuf E w0.heap.size w0 (((((x.setCell ⟨g, 0, none⟩ v0).setCell ⟨g, 1, none⟩ v1).setCell ⟨g, 2, none⟩ v2).setCell ⟨g, 3, none⟩ v3).setCell ⟨g, 4, none⟩ v4) v l := by
  have hne : v.ownBlock = none ∨ v.ownBlock ≠ some g := .inr (fun e => by have := (h.own.lt g e).1; omega)
  have h0 := h.shift (stored_grown _ g 0 v0) hne
  have h1 := h0.shift (stored_grown _ g 1 v1) hne
  have h2 := h1.shift (stored_grown _ g 2 v2) hne
  have h3 := h2.shift (stored_grown _ g 3 v3) hne
  have h4 := h3.shift (stored_grown _ g 4 v4) hne
  exact h4.down (((((hb.setCell (p := ⟨g, 0, none⟩) hw v0).setCell (p := ⟨g, 1, none⟩) hw v1).setCell (p := ⟨g, 2, none⟩) hw v2).setCell (p := ⟨g, 3, none⟩) hw v3).setCell (p := ⟨g, 4, none⟩) hw v4) hB

structure CkL (w : World) (B gL gR gC : Nat) (tL tC : TypeId) (cl : Array Value) (st ng ns nv : Int) (x : World) (a : Option Addr) (n cap : Nat) (l : List Rf) : Prop where
  log : Box x gL cl tL
  res : Box x gR #[.int .i64 0, .int .i64 0, .int .i64 0, .int .i64 0, .slice none 0 0] tC
  chk : Box x gC #[.int .i64 st, .int .i64 ng, .int .i64 ns, .int .i64 nv, .slice a n cap] tC
  refs : RBuf rfE B x x (.slice a n cap) l
  bel : Below w.heap.size w x
  low : w.heap.size ≤ gC ∧ w.heap.size ≤ gR
  lt : gL < gC ∧ gR < gC ∧ gC < B
theorem CkL.later {w : World} {B gL gR gC : Nat} {tL tC : TypeId} {cl : Array Value} {st ng ns nv : Int} {x y : World} {a : Option Addr} {n cap : Nat} {l : List Rf} (h : CkL w B gL gR gC tL tC cl st ng ns nv x a n cap l) (hb : Below x.heap.size x y) : CkL w B gL gR gC tL tC cl st ng ns nv y a n cap l :=
  ⟨h.log.later hb, h.res.later hb, h.chk.later hb, (h.refs.later hb).here, h.bel.trans (hb.mono h.bel.size), h.low, h.lt⟩
theorem CkL.push {w : World} {B gL gR gC : Nat} {tL tC : TypeId} {cl : Array Value} {st ng ns nv : Int} {x y : World} {a : Option Addr} {n cap : Nat} {l m : List Rf} (h : CkL w B gL gR gC tL tC cl st ng ns nv x a n cap l)
    (a2 : Option Addr) (n2 c2 : Nat) (hr : RBuf rfE B y y (.slice a2 n2 c2) m) (hg : x.grownBy y (Value.slice a n cap).ownBlock) : CkL w B gL gR gC tL tC cl st ng ns nv (y.setCell ⟨gC, 4, none⟩ (.slice a2 n2 c2)) a2 n2 c2 m := by
  have hne : ∀ k, (Value.slice a n cap).ownBlock = some k → B ≤ k := fun k hk => (h.refs.own.lt k hk).1
  have hz : w.heap.size ≤ B := by have := h.low; have := h.lt; omega
  have b1 := h.log.butC hg (fun k hk => by have := hne k hk; have := h.lt; omega)
  have b2 := h.res.butC hg (fun k hk => by have := hne k hk; have := h.lt; omega)
  have b3 := h.chk.butC hg (fun k hk => by have := hne k hk; have := h.lt; omega)
  refine ⟨b1.other (by have := h.lt; omega) _ _, b2.other (by have := h.lt; omega) _ _, b3.set 4 _, hr.shift (stored_grown _ gC 4 _) ?_, (h.bel.grown hg h.bel.size (fun k hk => Nat.le_trans hz (hne k hk))).setCell (p := ⟨gC, 4, none⟩) h.low.1 _, h.low, h.lt⟩
  cases hb : (Value.slice a2 n2 c2).ownBlock with
  | none => exact .inl rfl
  | some k =>
    right
    intro e
    have e1 : k = gC := Option.some.inj e
    have := (hr.own.lt k hb).1
    have := h.lt
    omega
theorem CkL.cells {w : World} {B gL gR gC : Nat} {tL tC : TypeId} {cl : Array Value} {st ng ns nv : Int} {x y : World} {a : Option Addr} {n cap : Nat} {l : List Rf} (h : CkL w B gL gR gC tL tC cl st ng ns nv x a n cap l)
    (hg : x.grownBy y (Value.slice a n cap).ownBlock) : y.cell? ⟨gC, 4, none⟩ = some (.slice a n cap) ∧ y.frozen? ⟨gC, 4, none⟩ = false := by
  have hne : ∀ k, (Value.slice a n cap).ownBlock = some k → B ≤ k := fun k hk => (h.refs.own.lt k hk).1
  have b3 := h.chk.butC hg (fun k hk => by have := hne k hk; have := h.lt; omega)
  exact ⟨b3.cell 4 _ rfl, b3.loose 4⟩

end Go.Proofs.YtgcnebepklelpaaGreatDoor

/- A new log, plainly. -/
namespace Go.Proofs.YtgcnebepklelpaaGreatDoor
open Go.RowKit

def lg0 : Lg := ⟨⟨[], []⟩, 0, [], 0, 0, 0, 0⟩
def fm0 (segs : Int) : Lg := ⟨newD (8 + 8 * segs), segs, [], 1, 1, 0, 1⟩
theorem newD_ok {n : Int} (h : 1 ≤ n ∧ n ≤ 100) : (newD n).ok ∧ (newD n).sec.length = n.toNat ∧ (newD n).cache = [] := by
  unfold newD
  rw [if_pos h]
  refine ⟨⟨by simp; omega, by simp; omega, by simp, fun s hs => ?_, by simp⟩, by simp, rfl⟩
  have := (List.mem_replicate.1 hs).2
  subst this
  rfl
theorem fm0_ok {segs : Int} (h : 5 ≤ segs ∧ segs ≤ 11) : OpH (fm0 segs) := by
  obtain ⟨h1, h2, _⟩ := newD_ok (n := 8 + 8 * segs) (by omega)
  exact ⟨h1, ⟨by show 0 ≤ segs; omega, h.2⟩, by show 8 + 8 * segs.toNat ≤ (newD (8 + 8 * segs)).sec.length; omega, by show (1 : Int) ≤ 1 ∧ (1 : Int) ≤ 1000000000; omega⟩
theorem opO_is {L L' : Lg} {keep : Int} (h : OpH L) (ho : opO L keep = some L') : L'.d.ok ∧ L'.used.length = L.used.length + 1 ∧ L'.d.sec.length = L.d.sec.length ∧ L'.d.cache = [] := by
  unfold opO at ho
  split at ho
  case isFalse => cases ho
  case isTrue hc =>
    cases hw : sgW L.d (opN L) 0 (hdT L.ng) with
    | none => rw [hw] at ho; cases ho
    | some d =>
      rw [hw] at ho
      cases ho
      unfold sgW at hw
      split at hw
      case isFalse => cases hw
      case isTrue =>
        obtain ⟨r1, r2⟩ := wbL_ok _ _ (Nat.le_refl _) L.d d _ _ (by omega) h.ok hw
        obtain ⟨f1, f2, f3⟩ := flD_ok r1
        exact ⟨f1, by simp [opL], f2.trans r2, f3⟩
noncomputable def fmO (segs : Int) : Option Lg := if 5 ≤ segs ∧ segs ≤ 11 then (opO (fm0 segs) 0).bind (fun L => (wcO L.d (ckOf L)).map (fun D => ⟨D, L.segs, L.used, L.ng, L.ns, 1, L.nv⟩)) else none
theorem fmO_out {segs : Int} (h : ¬ (5 ≤ segs ∧ segs ≤ 11)) : fmO segs = none := if_neg h
theorem fmO_no {segs : Int} (h : opO (fm0 segs) 0 = none) : fmO segs = none := by unfold fmO; rw [h]; exact ite_self _
theorem fmO_none {segs : Int} {L : Lg} (h : opO (fm0 segs) 0 = some L) (hw : wcO L.d (ckOf L) = none) : fmO segs = none := by unfold fmO; rw [h]; simp [hw]
theorem fmO_some {segs : Int} {L : Lg} {E : Dk} (h0 : 5 ≤ segs ∧ segs ≤ 11) (h : opO (fm0 segs) 0 = some L) (hw : wcO L.d (ckOf L) = some E) : fmO segs = some ⟨E, L.segs, L.used, L.ng, L.ns, 1, L.nv⟩ := by unfold fmO; rw [if_pos h0, h]; simp [hw]

def FmR (O : Option Lg) (w : World) (e : Ending) (w' : World) : Prop := ∃ (v : Value) (f : Bool), e = .returned (.tuple #[v, .bool f]) ∧ LgO w.heap.size w'.heap.size w' v (O.getD lg0) ∧ f = O.isSome ∧ Below w.heap.size w w'
theorem lgP_nil {B : Nat} {w : World} (hB : B ≤ w.heap.size) : LgP B w.heap.size w (.slice none 0 0) (.slice none 0 0) (.slice none 0 0) lg0 [] :=
  ⟨nilOwn hB (Nat.le_refl _), nilOwn hB (Nat.le_refl _), .inl rfl, ⟨⟨⟨World.ownsRow_nil _ _ _ _, Below.refl _ _, hB⟩, rfl, (fun j h b h1 => by simp at h1), (fun j h h1 => by simp at h1), (fun i j h h' h1 => by simp at h1)⟩, Nat.le_refl _, (fun k hk => by cases hk), (fun j x hj => by simp at hj)⟩, fun k hk => by rcases hk with e | e <;> cases e⟩
theorem LgP.mkU {B C T T1 : Nat} {w : World} {va vb vu : Value} {L : Lg} {hs : List SgH} (hd : DOwn C T1 w (.agg #[va, vb]) L.d) (hg : GOwn B T w vu L.used hs) (hB : B ≤ C) (hT : T ≤ C) : LgP B w.heap.size w va vb vu L hs := by
  obtain ⟨ua, ub, e, l1, l2, l3⟩ := hd
  simp only [Value.agg.injEq, Array.mk.injEq, List.cons.injEq, and_true] at e
  obtain ⟨rfl, rfl⟩ := e
  refine ⟨(l1.deeper hB).wider l1.2.1 (Nat.le_refl _), (l2.deeper hB).wider l2.2.1 (Nat.le_refl _), l3, hg.widen (Nat.le_refl _) hg.le (Nat.le_refl _), fun k hk => ?_⟩
  have hlt : C ≤ k := by
    rcases hk with e | e
    · exact (l1.1.own.lt k e).1
    · exact (l2.1.own.lt k e).1
  refine ⟨fun e => ?_, fun j x hj e => ?_⟩
  · have := hg.row k e; omega
  · have := hg.its j x hj k e; omega
theorem LgP.mkN {B T : Nat} {w : World} {va vb : Value} {L : Lg} (hd : DOwn B T w (.agg #[va, vb]) L.d) (hu : L.used = []) (hB : B ≤ w.heap.size) (hT : T ≤ w.heap.size) : LgP B T w va vb (.slice none 0 0) L [] := by
  obtain ⟨ua, ub, e, l1, l2, l3⟩ := hd
  simp only [Value.agg.injEq, Array.mk.injEq, List.cons.injEq, and_true] at e
  obtain ⟨rfl, rfl⟩ := e
  rcases L with ⟨d, segs, us, ng, ns, st, nv⟩
  simp only at hu
  subst hu
  exact ⟨l1, l2, l3, ⟨⟨⟨World.ownsRow_nil _ _ _ _, Below.refl _ _, hB⟩, rfl, (fun j h b h1 => by simp at h1), (fun j h h1 => by simp at h1), (fun i j h h' h1 => by simp at h1)⟩, hT, (fun k hk => by cases hk), (fun j x hj => by simp at hj)⟩, fun k _ => ⟨(fun e => by cases e), (fun j x hj => by simp at hj)⟩⟩
theorem GOwn.beside {B T : Nat} {w w' : World} {v : Value} {l : List Sg} {hs : List SgH} (h : GOwn B T w v l hs) (hz : w.heap.size ≤ w'.heap.size) (P : Nat → Prop) (hk : ∀ q, q < w.heap.size → ¬ P q → w'.heap[q]? = w.heap[q]?) (hP : ∀ q, P q → ∃ cs t, Box w q cs t ∧ sgE.ty ≠ t ∧ itE.ty ≠ t) : GOwn B T w' v l hs := by
  refine ⟨h.own.stay hz (fun k e => ?_) (fun j x hj k e => ?_), Nat.le_trans h.le hz, h.row, h.its⟩
  · refine hk k (h.own.where'.1 k e).2 (fun hp => ?_)
    obtain ⟨cs, t, hb, h1, _⟩ := hP k hp
    exact hb.notRow h.own.row h1 e
  · refine hk k (h.own.where'.2 j x hj k e).2 (fun hp => ?_)
    obtain ⟨cs, t, hb, _, h2⟩ := hP k hp
    have hl : j < hs.length := (List.getElem?_eq_some_iff.1 hj).1
    have hb2 : l[j]? = some (l[j]'(by rw [← h.own.len]; exact hl)) := List.getElem?_eq_getElem _
    exact hb.notRow (h.own.at' j x _ hj hb2).2 h2 e

end Go.Proofs.YtgcnebepklelpaaGreatDoor
