/- A range over a function that keeps a variable of its own in memory, at the wide fence: what the caller holds to, round by round, while the variable's block is turned by the function alone. -/
import Derived.RangeFuncNested
import Derived.RangeFuncBound
import Derived.RangeFuncCalls
import Derived.RangeFuncLeaves
import Derived.RangeFuncBox
import Derived.Test.YtmmgnpjhlmiafabDoorKitR2
namespace Go.Proofs.YtmmgnpjhlmiafabDoor
open Go.RowKit

/-- What a round leaves: it has gone on to its end. -/
def RoundOk (D : Nat) (B : Nat) (I : World → Prop) (W : World) : Exit → Act → World → Prop
  | .normal, _, W' => I W' ∧ W.heap.size ≤ W'.heap.size ∧ W'.heap[D]? = W.heap[D]? ∧ W'.heap[D + 1]? = W.heap[D + 1]? ∧ W'.heap[B]? = W.heap[B]?
  | _, _, _ => False

/-- How such a function hands on its elements. -/
def SeqVar {α : Type} (n : Nat) (P : Program) (gf : Nat) (lb : Array Value) (encs : α → Array Value) (Kn : World → Prop) (Ok : List α → α → Prop) (S : List α → Prop) (m : Nat) : Prop :=
  ∀ (l : Nat) (J : Nat → List α → World → Prop) (W : World), W.heap.size = m → (∀ B pre X, J B pre X → Kn X ∧ m ≤ X.heap.size) →
    (∀ B pre X Y row, m ≤ B → J B pre X → X.grownBy Y row → (∀ r, row = some r → r = B) → J B pre Y) →
    (∀ B pre x X, m ≤ B → B < X.heap.size → J B pre X → Ok pre x → YieldAt Fence.wide (n - 1) P l (encs x) X fun e X' => e = .returned (.bool true) ∧ J B (pre ++ [x]) X' ∧ X.heap.size ≤ X'.heap.size ∧ X'.heap[B]? = X.heap[B]?) →
    (∀ B, m ≤ B → J B [] W) →
    CallsIn Fence.wide n P gf (#[.func (.yield l) #[] #[]] ++ lb) W fun e W' => (∃ v, e = .returned v) ∧ ∃ B xs, m ≤ B ∧ S xs ∧ J B xs W'

theorem wpIn_range_var {α : Type} {n : Nat} {P : Program} {g : Operand} {ps : Array Tmp} {assign body : Code} {Q : Exit → Act → World → Prop} {a : Act} {w : World} (h1 : 1 ≤ n)
    {gf : Nat} {lb : Array Value} (hg : a.eval g = .func (.func gf) #[] lb) (eg : ∀ args w, (callFunc gf args).run P w = .ok (.enter gf args) w)
    {encs : α → Array Value} (hps : ∀ x, (encs x).size = ps.size) {Kn : World → Prop} {Ok : List α → α → Prop} {S : List α → Prop} (hseq : SeqVar (n - 1) P gf lb encs Kn Ok S (w.heap.size + 2))
    (I : Nat → List α → World → Prop) (hK : ∀ B pre X, I B pre X → Kn X)
    (hI : ∀ B pre X Y row, w.heap.size + 2 ≤ B → I B pre X → X.grownBy Y row → (∀ r, row = some r → r = B ∨ r = w.heap.size ∨ r = w.heap.size + 1) → I B pre Y)
    (h0 : ∀ B, w.heap.size + 2 ≤ B → I B [] w) (Ax : α → Act → World → Prop)
    (hassign : ∀ (l : Nat) (x : α) (W : World) (K : Act → World → Prop), w.heap.size + 2 ≤ W.heap.size → (∀ a' W', W.grownBy W' none → Ax x a' W' → K a' W') →
      assign.wpIn (Fence.wide.inRound l) (n - 1 - 1) P (Exit.then K (fun _ _ _ => False)) { tmps := (ps.zip (encs x)).foldl (fun t (p, v) => t.setIfInBounds p v) a.tmps, defers := [] } W)
    (hbody : ∀ (l B : Nat) (pre : List α) (x : α) (a' : Act) (W : World), w.heap.size + 2 ≤ B → B < W.heap.size → I B pre W → Ok pre x → (∀ W0, W0.grownBy W (some (w.heap.size + 1)) → Ax x a' W0 → body.wpIn (Fence.wide.inRound l) (n - 1 - 1) P (RoundOk w.heap.size B (fun W' => I B (pre ++ [x]) W') W) a' W))
    (hdone : ∀ (D B : Nat) (xs : List α) (W : World), D = w.heap.size → w.heap.size + 2 ≤ B → S xs → I B xs W → W.heap[D]? = some (.deferred (some [])) → Q .normal { a with defers := { target := .collected D, args := #[] } :: a.defers } W) :
    (Code.rangeFunc g ps assign body).wpIn Fence.wide n P Q a w := by
  refine wpIn_rangeFunc ?_
  intro fn hfn
  obtain ⟨rec, hrec⟩ : ∃ rec : LoopState → Loop, rec = fun st => { state := st, pending := none, fn, tmps := a.tmps, params := ps, assign, body, defers := w.heap.size } := ⟨_, rfl⟩
  obtain ⟨W1, hW1⟩ : ∃ W1, (w.alloc (.deferred (some []))).alloc (.loop (rec .ready)) = W1 := ⟨_, rfl⟩
  have hs1 : W1.heap.size = w.heap.size + 2 := by rw [← hW1]; simp
  have hD : W1.heap[w.heap.size]? = some (.deferred (some [])) := by
    rw [← hW1]; exact (Below.heap_alloc _ _ _ (by simp)).trans (World.alloc_heap_new w _)
  have hL : W1.heap[w.heap.size + 1]? = some (.loop (rec .ready)) := by
    rw [← hW1]; have := World.alloc_heap_new (w.alloc (.deferred (some []))) (.loop (rec .ready)); rwa [World.size_alloc] at this
  have hg1 : w.grownBy W1 none := by
    rw [← hW1]; exact (World.grownBy_alloc w _ none).trans (World.grownBy_alloc _ _ none)
  refine ⟨w.heap.size + 1, [{ target := .collected w.heap.size, args := #[] }], W1, { target := .fn (.func gf) lb, args := #[.func (.yield (w.heap.size + 1)) #[] #[]] }, W1, gf,
    #[.func (.yield (w.heap.size + 1)) #[] #[]] ++ lb, W1, ?_, ?_, fun _ _ => trivial, ?_, fun _ => h1, ?_⟩
  · rw [← hW1, hrec]; exact run_enterLoop_outer _ _ _ _ _
  · simp only [resolve, hg]; simp [go_sem]
  · simp [invoke, go_sem, eg]
  refine (hseq (w.heap.size + 1) (fun B pre X => I B pre X ∧ w.heap.size + 2 ≤ X.heap.size ∧ X.heap[w.heap.size + 1]? = some (.loop (rec .ready)) ∧ X.heap[w.heap.size]? = some (.deferred (some []))) W1 hs1 (fun B pre X h => ⟨hK B pre X h.1, h.2.1⟩) ?_ ?_ ?_).mono ?_
  · rintro B pre X Y row hB ⟨hi, hz, hl, hd⟩ hg' hr
    refine ⟨hI B pre X Y row hB hi hg' (fun r e => .inl (hr r e)), Nat.le_trans hz hg'.size, ?_, ?_⟩
    · exact (hg'.block _ (by omega) (fun e => by have := hr _ e.symm; omega)).trans hl
    · exact (hg'.block _ (by omega) (fun e => by have := hr _ e.symm; omega)).trans hd
  · rintro B pre x X hB hBX ⟨hi, hz, hl, hd⟩ hok
    have hy := run_yield (P := P) (args := encs x) hl (by rw [hrec]; exact hps x)
    rw [hrec] at hy
    refine ⟨fn, _, assign, body, hy, roundIn_of_wpIn hfn (hassign _ x X _ hz ?_)⟩
    intro a' Xa hga hax
    have hza : w.heap.size + 2 ≤ Xa.heap.size := Nat.le_trans hz hga.size
    have hla : Xa.heap[w.heap.size + 1]? = some (.loop (rec .ready)) := (hga.block _ (by omega) (by simp)).trans hl
    have hda : Xa.heap[w.heap.size]? = some (.deferred (some [])) := (hga.block _ (by omega) (by simp)).trans hd
    have hia := hI B pre X Xa none hB hi hga (fun r e => by cases e)
    refine ⟨_, run_beginRound hla (by rw [hrec]), ?_⟩
    obtain ⟨Xb, hXb⟩ : ∃ Xb, Xa.putObj (w.heap.size + 1) (.loop { rec .ready with state := .busy }) = Xb := ⟨_, rfl⟩
    have hgb : Xa.grownBy Xb (some (w.heap.size + 1)) := by rw [← hXb]; exact grownBy_putObj' _ _ _
    have hlb : Xb.heap[w.heap.size + 1]? = some (.loop { rec .ready with state := .busy }) := by rw [← hXb]; exact World.putObj_heap_same (by omega)
    have hdb : Xb.heap[w.heap.size]? = some (.deferred (some [])) := (hgb.block _ (by omega) (by simp)).trans hda
    have hib := hI B pre Xa Xb _ hB hia hgb (fun r e => .inr (.inr (by cases e; rfl)))
    have hzb : w.heap.size + 2 ≤ Xb.heap.size := Nat.le_trans hza hgb.size
    rw [hXb]
    refine wpIn_mono (hbody _ B pre x a' Xb hB (Nat.lt_of_lt_of_le hBX (Nat.le_trans hga.size hgb.size)) hib hok Xa hgb hax) ?_
    rintro e a3 X3 hp
    cases e with
    | normal =>
      obtain ⟨hi3, hz3, hd3, hl3, hb3⟩ := hp
      have hl3' := hl3.trans hlb
      have hend := run_endRound (P := P) none hl3'
      have hsz3 : w.heap.size + 2 ≤ X3.heap.size := Nat.le_trans hzb hz3
      have hge := grownBy_putObj' X3 (w.heap.size + 1) (.loop (rec .ready))
      refine ⟨_, _, hend, rfl, ⟨?_, ?_, ?_, ?_⟩, ?_, ?_⟩
      · rw [hrec] at hge ⊢
        exact hI B (pre ++ [x]) X3 _ _ hB hi3 hge (fun r e => .inr (.inr (by cases e; rfl)))
      · simp [World.putObj]; omega
      · rw [hrec]; exact World.putObj_heap_same (by omega)
      · exact (World.putObj_heap_other (by omega)).trans (hd3.trans hdb)
      · have s1 := hga.size
        have s2 := hgb.size
        simp [World.putObj]; omega
      · have s1 := hga.size
        have s2 := hgb.size
        rw [World.putObj_heap_other (by omega), hb3, hgb.block B (by omega) (fun e => by have := Option.some.inj e; omega), hga.block B hBX (by simp)]
    | ret => exact hp.elim
    | exit id => exact hp.elim
    | goto t => exact hp.elim
    | panic ch => exact hp.elim
    | outgrown => exact hp.elim
  · intro B hB
    exact ⟨hI B [] w W1 none hB (h0 B hB) hg1 (fun r e => by cases e), by omega, hL, hD⟩
  · rintro e W2 ⟨⟨v, rfl⟩, B, xs, hB, hS, hi, hz, hl, hd⟩
    refine ⟨none, _, by have := run_endLoop (P := P) hl (by rw [hrec]; simp); rw [hrec] at this; exact this, ?_⟩
    refine hdone _ B xs _ rfl hB hS (hI B xs W2 _ _ hB hi (grownBy_putObj' _ _ _) (fun r e => .inr (.inr (by cases e; rfl)))) ?_
    exact (World.putObj_heap_other (by omega)).trans hd

end Go.Proofs.YtmmgnpjhlmiafabDoor
