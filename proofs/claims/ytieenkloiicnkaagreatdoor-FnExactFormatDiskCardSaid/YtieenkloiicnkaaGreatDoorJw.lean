/- Texts of our own, joined. -/
import Derived.Test.YtieenkloiicnkaaGreatDoorJe
import Derived.Test.YtieenkloiicnkaaGreatDoorJl
import Derived.Test.YtieenkloiicnkaaGreatDoorJm
import Derived.Test.YtieenkloiicnkaaGreatDoorJt
import Derived.Test.YtieenkloiicnkaaGreatDoorJu
import Derived.Test.YtieenkloiicnkaaGreatDoorJv
import Derived.Test.YtieenkloiicnkaaGreatDoorJb
/- A new head of a log, plainly. -/
namespace Go.Proofs.YtieenkloiicnkaaGreatDoor
open Go.RowKit

def hdF (g : Int) : Fr := ⟨g, 1, segB⟩
def hdT (g : Int) : ByteArray := (hdF g).tx
theorem hdF_ok {g : Int} (h : 1 ≤ g ∧ g ≤ 1000000000) : (hdF g).ok := ⟨h, ⟨(by decide : (1 : Int) ≤ 1), (by decide : (1 : Int) ≤ 1000000000)⟩, (by decide : 1 ≤ segB.size), (by decide : segB.size ≤ 180)⟩
theorem hdT_size {g : Int} (h : 1 ≤ g ∧ g ≤ 1000000000) : (hdT g).size ≤ 196 := by
  obtain ⟨t, b, h1, h2⟩ := ftT_form (hdF g)
  rw [ftT_yes (hdF_ok h)] at h1
  cases h1
  exact h2

theorem frT_mem {u : List Sg} : ∀ (n : Nat) (k : Int), k ∈ frT u n → 0 ≤ k ∧ k < (n : Int)
  | 0, k, h => by cases h
  | n + 1, k, h => by
    have h1 : k ∈ frT u n ++ (if hasB u (n : Int) then [] else [(n : Int)]) := h
    rcases List.mem_append.1 h1 with h2 | h2
    · have := frT_mem n k h2; omega
    · cases hb : hasB u (n : Int) with
      | true => rw [hb] at h2; cases h2
      | false => rw [hb] at h2; simp at h2; omega
def opN (L : Lg) : Nat := ((fr L).headD 0).toNat
theorem opN_at {L : Lg} (h : 0 < (fr L).length) : (fr L)[0]? = some (opN L : Int) ∧ opN L < frN L.segs := by
  unfold opN
  have hm : ∀ k ∈ fr L, 0 ≤ k ∧ k < (frN L.segs : Int) := fun k hk => frT_mem _ _ hk
  cases hf : fr L with
  | nil => rw [hf] at h; simp at h
  | cons k l =>
    have hk := hm k (by rw [hf]; simp)
    simp only [List.getElem?_cons_zero, List.headD_cons, Option.some.injEq]
    omega
structure OpH (L : Lg) : Prop where
  ok : L.d.ok
  segs : 0 ≤ L.segs ∧ L.segs ≤ 11
  room : 8 + 8 * L.segs.toNat ≤ L.d.sec.length
  gen : 1 ≤ L.ng ∧ L.ng ≤ 1000000000
theorem OpH.first {L : Lg} (h : OpH L) (hf : 0 < (fr L).length) : opN L ≤ 10 ∧ 8 + 8 * opN L < L.d.sec.length := by
  have h1 := (opN_at hf).2
  have h2 : frN L.segs = L.segs.toNat := by unfold frN; have := h.segs; omega
  have := h.room
  have := h.segs
  omega
def opL (L : Lg) (d : Dk) : Lg := ⟨flD d, L.segs, L.used ++ [⟨(opN L : Int), L.ng, ((hdT L.ng).size : Int), []⟩], L.ng + 1, L.ns, L.st, L.nv⟩
def opO (L : Lg) (keep : Int) : Option Lg := if 0 ≤ keep ∧ keep < ((fr L).length : Int) ∧ L.ng < 1000000000 then (sgW L.d (opN L) 0 (hdT L.ng)).map (opL L) else none
theorem opO_no {L : Lg} {keep : Int} (h : ¬ (0 ≤ keep ∧ keep < ((fr L).length : Int) ∧ L.ng < 1000000000)) : opO L keep = none := if_neg h
theorem opO_none {L : Lg} {keep : Int} (h : sgW L.d (opN L) 0 (hdT L.ng) = none) : opO L keep = none := by unfold opO; rw [h]; exact ite_self _
theorem opO_some {L : Lg} {keep : Int} {d : Dk} (h0 : 0 ≤ keep ∧ keep < ((fr L).length : Int) ∧ L.ng < 1000000000) (h : sgW L.d (opN L) 0 (hdT L.ng) = some d) : opO L keep = some (opL L d) := by unfold opO; rw [if_pos h0, h]; rfl

def lgC (va vb vu : Value) (L : Lg) : Array Value := #[va, vb, .int .i64 L.segs, vu, .int .i64 L.ng, .int .i64 L.ns, .int .i64 L.st, .int .i64 L.nv]
theorem Box.eightO {w : World} {b : Nat} {u0 u1 u2 u3 u4 u5 u6 u7 : Value} {t : TypeId} (h : Box w b #[u0, u1, u2, u3, u4, u5, u6, u7] t) :
    w.cell? ⟨b, 0, none⟩ = some u0 ∧ w.cell? ⟨b, 1, none⟩ = some u1 ∧ w.cell? ⟨b, 2, none⟩ = some u2 ∧ w.cell? ⟨b, 3, none⟩ = some u3 ∧ w.cell? ⟨b, 4, none⟩ = some u4 ∧ w.cell? ⟨b, 5, none⟩ = some u5 ∧ w.cell? ⟨b, 6, none⟩ = some u6 ∧ w.cell? ⟨b, 7, none⟩ = some u7 :=
  ⟨h.cell 0 _ rfl, h.cell 1 _ rfl, h.cell 2 _ rfl, h.cell 3 _ rfl, h.cell 4 _ rfl, h.cell 5 _ rfl, h.cell 6 _ rfl, h.cell 7 _ rfl⟩
def OpR (L : Lg) (keep : Int) (pg B T : Nat) (tL : TypeId) (va vb vu : Value) (hs : List SgH) (w : World) (e : Ending) (w' : World) : Prop :=
  w.grownBy w' (some pg) ∧
  ((opO L keep = none ∧ e = .returned (.bool false) ∧ Box w' pg (lgC va vb vu L) tL ∧ LgP B T w' va vb vu L hs) ∨
   ∃ L' va' vb' vu' hs', opO L keep = some L' ∧ e = .returned (.bool true) ∧ Box w' pg (lgC va' vb' vu' L') tL ∧ LgP B w'.heap.size w' va' vb' vu' L' hs')

theorem step_append_rdO {α : Type} {w : World} {ops : Array Oper} {o : Oper} {a : Act} {K : Act → World → Prop} {Q : Exit → Act → World → Prop} {X : Prop} (hgd : o.guard = none) (s x : Operand) (E : Enc α)
    (ho : o.op = .call { callee := .builtin .append, args := #[s, x], argTypes := #[E.sty, E.sty] })
    (B : Nat) (v : Value) (l : List α) (hs : a.eval s = v) (hb : RBuf E B w w v l) (vx : Value) (m : List α) (hxv : a.eval x = vx) (hx : Rows' E w vx m)
    (hlen : (l.length + m.length) * (E.bytes + 1) ≤ 140737488355328)
    (h : ∀ v' w', RBuf E B w' w' v' (l ++ m) → w.grownBy w' v.ownBlock → (v'.ownBlock = v.ownBlock ∨ v'.ownBlock = some w.heap.size) → (∀ k, v.ownBlock = some k → B ≤ k ∧ k < w.heap.size) → K (a.put o.dst v') w') :
    if Region.wanted o (yielded ops a.tmps) = true then Oper.wp Tryz.prog o a w K Q else X := by
  have hw : Region.wanted o (yielded ops a.tmps) = true := by simp [Region.wanted, hgd]
  rw [if_pos hw]
  exact wp_append_rd s x E ho B v l hs hb vx m hxv hx hlen fun v' w' h2 h3 h4 => h v' w' h2 h3 h4 (fun k hk => hb.own.lt k hk)
theorem DOwn.stayO {B T : Nat} {w w' : World} {v : Value} {d : Dk} (h : DOwn B T w v d) (hz : w.heap.size ≤ w'.heap.size) (hk : ∀ q, B ≤ q → q < T → w'.heap[q]? = w.heap[q]?) : DOwn B T w' v d := by
  obtain ⟨va, vb, e, h1, h2, h3⟩ := h
  exact ⟨va, vb, e, ⟨h1.1.stayG hz (fun q e => hk q (h1.1.own.lt q e).1 (h1.2.2 q e)), Nat.le_trans h1.2.1 hz, h1.2.2⟩, ⟨h2.1.stayG hz (fun q e => hk q (h2.1.own.lt q e).1 (h2.2.2 q e)), Nat.le_trans h2.2.1 hz, h2.2.2⟩, h3⟩
theorem LgP.mkO {B C T0 T1 : Nat} {w : World} {va vb vu : Value} {L : Lg} {hs : List SgH} (hd : DOwn C T1 w (.agg #[va, vb]) L.d) (hg : GOwn B w.heap.size w vu L.used hs) (hB : B ≤ C) (h0 : T0 ≤ C) (h1 : ∀ k, vu.ownBlock = some k → T1 ≤ k) (h2 : ∀ (j : Nat) (x : SgH), hs[j]? = some x → ∀ k, x.mv.ownBlock = some k → k < T0) : LgP B w.heap.size w va vb vu L hs := by
  obtain ⟨ua, ub, e, l1, l2, l3⟩ := hd
  simp only [Value.agg.injEq, Array.mk.injEq, List.cons.injEq, and_true] at e
  obtain ⟨rfl, rfl⟩ := e
  refine ⟨(l1.deeper hB).wider l1.2.1 (Nat.le_refl _), (l2.deeper hB).wider l2.2.1 (Nat.le_refl _), l3, hg, fun k hk => ?_⟩
  have hlt : C ≤ k ∧ k < T1 := by
    rcases hk with e | e
    · exact ⟨(l1.1.own.lt k e).1, l1.2.2 k e⟩
    · exact ⟨(l2.1.own.lt k e).1, l2.2.2 k e⟩
  refine ⟨fun e => ?_, fun j x hj e => ?_⟩
  · have := h1 k e; omega
  · have := h2 j x hj k e; omega
theorem GOwn.grow {B T C : Nat} {w w' : World} {v v' : Value} {bs : List Sg} {hs : List SgH} (h : GOwn B T w v bs hs) (hz : w.heap.size ≤ w'.heap.size) (hk : ∀ q, B ≤ q → q < T → w'.heap[q]? = w.heap[q]?) (b : Sg) (x : SgH)
    (hx : x.no = b.no ∧ x.gen = b.gen ∧ x.ende = b.ende) (hm : x.mv = .slice none 0 0) (hi : b.items = []) (hr : RBuf sgE C w' w' v' (hs ++ [x])) (hC : T ≤ C) (hB : B ≤ C) : GOwn B w'.heap.size w' v' (bs ++ [b]) (hs ++ [x]) := by
  have old : ∀ {j : Nat} {y : SgH}, (hs ++ [x])[j]? = some y → (hs[j]? = some y ∧ j < hs.length) ∨ (j = hs.length ∧ y = x) := fun {j y} hj => by
    by_cases c : j < hs.length
    · rw [List.getElem?_append_left c] at hj
      exact .inl ⟨hj, c⟩
    · rw [List.getElem?_append_right (by omega)] at hj
      have hj0 : j - hs.length = 0 := by
        have := (List.getElem?_eq_some_iff.1 hj).1
        simp at this; omega
      rw [hj0] at hj
      simp at hj
      exact .inr ⟨by omega, hj.symm⟩
  have nob : ∀ k, x.mv.ownBlock ≠ some k := fun k e => by rw [hm] at e; cases e
  have hown : SgO B w' v' (bs ++ [b]) (hs ++ [x]) := by
    refine ⟨hr.lower hB, by simp [h.own.len], fun j y c h1 h2 => ?_, fun j y h1 k hk2 => ?_, fun i j y z h1 h2 hij k hk2 => ?_⟩
    · rcases old h1 with ⟨h3, hl⟩ | ⟨rfl, rfl⟩
      · rw [List.getElem?_append_left (by rw [← h.own.len]; exact hl)] at h2
        obtain ⟨p1, p2⟩ := h.own.at' j y c h3 h2
        exact ⟨p1, p2.stayG hz (fun q hq => hk q (p2.own.lt q hq).1 (h.its j y h3 q hq))⟩
      · rw [List.getElem?_append_right (by rw [h.own.len]; omega), h.own.len] at h2
        simp at h2
        subst h2
        refine ⟨hx, ?_⟩
        rw [hm, hi]
        exact ⟨World.ownsRow_nil _ _ _ _, Below.refl _ _, Nat.le_trans h.own.row.le hz⟩
    · rcases old h1 with ⟨h3, _⟩ | ⟨_, rfl⟩
      · intro e
        have := h.its j y h3 k hk2
        have := (hr.own.lt k e).1
        omega
      · exact absurd hk2 (nob k)
    · rcases old h1 with ⟨h3, _⟩ | ⟨_, rfl⟩
      · rcases old h2 with ⟨h4, _⟩ | ⟨_, rfl⟩
        · exact h.own.apart i j y z h3 h4 hij k hk2
        · exact nob k
      · exact absurd hk2 (nob k)
  exact hown.gown

theorem grownBy_storeO {W x : World} {pg : Nat} (h : W.grownBy x (some pg)) (i : Nat) (u : Value) : W.grownBy (x.setCell ⟨pg, i, none⟩ u) (some pg) := h.trans (stored_grown x pg i u)
def KO (W : World) (pg : Nat) (ng : Value) (x : World) : Prop := W.grownBy x (some pg) ∧ x.cell? ⟨pg, 4, none⟩ = some ng
theorem KO.drew {W : World} {pg : Nat} {ng : Value} (h : W.cell? ⟨pg, 4, none⟩ = some ng) : KO W pg ng W.drew := ⟨⟨rfl, rfl, rfl, Nat.le_refl _, fun _ _ _ => rfl⟩, h⟩
theorem KO.later {W x y : World} {pg : Nat} {ng : Value} (h : KO W pg ng x) (hb : Below x.heap.size x y) : KO W pg ng y :=
  ⟨⟨hb.os.trans h.1.os, hb.tape.trans h.1.tape, hb.output.trans h.1.output, Nat.le_trans h.1.size hb.size, fun k hk hr => (hb.block k (Nat.lt_of_lt_of_le hk h.1.size)).trans (h.1.block k hk hr)⟩, (hb.cell (p := ⟨pg, 4, none⟩) (World.block_lt_of_cell? _ _ h.2)).trans h.2⟩
theorem KO.grown {W x y : World} {pg : Nat} {ng : Value} {r : Option Nat} (h : KO W pg ng x) (hg : x.grownBy y r) (hr : ∀ k, r = some k → W.heap.size ≤ k) (hp : pg < W.heap.size) : KO W pg ng y :=
  ⟨⟨hg.os.trans h.1.os, hg.tape.trans h.1.tape, hg.output.trans h.1.output, Nat.le_trans h.1.size hg.size, fun k hk hn => (hg.block k (Nat.lt_of_lt_of_le hk h.1.size) (fun e => by have := hr k e.symm; omega)).trans (h.1.block k hk hn)⟩, hg.cell h.2 (fun e => by have := hr pg e.symm; omega)⟩
theorem KO.put {W x : World} {pg : Nat} {ng : Value} (h : KO W pg ng x) (u : Value) : KO W pg ng (x.setCell ⟨pg, 3, none⟩ u) :=
  ⟨grownBy_storeO h.1 3 u, by rw [World.cell?_setCell_other _ _ _ _ (by simp)]; exact h.2⟩
theorem KO.cell {W x : World} {pg g o : Nat} {ng u : Value} (h : KO W pg ng x) (hc : W.cell? ⟨g, o, none⟩ = some u) (hne : g ≠ pg) : x.cell? ⟨g, o, none⟩ = some u :=
  h.1.cell hc (fun e => hne (Option.some.inj e))
theorem RBuf.ko {α : Type} {E : Enc α} {B pg : Nat} {W x : World} {ng v : Value} {l : List α} (h : RBuf E B W W v l) (hk : KO W pg ng x) (hne : v.ownBlock ≠ some pg) : RBuf E B x x v l :=
  h.stayG hk.1.size (fun k e => hk.1.block k (h.own.lt k e).2 (fun e2 => hne (by rw [e, Option.some.inj e2])))
theorem readyThree {P : Program} {md : Region.Mode} {l : List Oper} {Q : Exit → Act → World → Prop} {S : World → Prop} {i j k : Nat} {o o' o2 : Oper} {fuel : Nat} {listed : Array Bool} {a : Act} {w : World} (hi : l[i]? = some o) (hj : l[j]? = some o') (hk : l[k]? = some o2)
    (h : ∀ K' : Act → World → Prop, Shut (∀ a w, S w → (S w → wpAnyH P md l.toArray Q S fuel (listed.setIfInBounds i true) a w) → K' a w) → if Region.wanted o (yielded l.toArray a.tmps) = true then Oper.wp P o a w K' Q else K' (a.put o.dst undef) w)
    (h' : ∀ K' : Act → World → Prop, Shut (∀ a w, S w → (S w → wpAnyH P md l.toArray Q S fuel (listed.setIfInBounds j true) a w) → K' a w) → if Region.wanted o' (yielded l.toArray a.tmps) = true then Oper.wp P o' a w K' Q else K' (a.put o'.dst undef) w)
    (h2 : ∀ K' : Act → World → Prop, Shut (∀ a w, S w → (S w → wpAnyH P md l.toArray Q S fuel (listed.setIfInBounds k true) a w) → K' a w) → if Region.wanted o2 (yielded l.toArray a.tmps) = true then Oper.wp P o2 a w K' Q else K' (a.put o2.dst undef) w) :
    AllReadyH P md l.toArray Q S fuel listed a w [i, j, k] :=
  AllReadyH.cons (by rw [List.getElem?_toArray]; exact hi) h (readyTwo hj hk h' h2)

end Go.Proofs.YtieenkloiicnkaaGreatDoor
