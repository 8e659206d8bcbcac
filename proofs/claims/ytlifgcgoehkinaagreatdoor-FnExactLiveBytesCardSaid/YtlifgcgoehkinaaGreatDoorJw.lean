/- Texts of our own, joined. -/
import Derived.Test.YtlifgcgoehkinaaGreatDoorJa
import Derived.Maps.RangeWalk
import Derived.Maps.OwnSet
/- Maps of a call's own, as functions: at each key what stands there, or nothing. -/
namespace Go.Proofs.YtlifgcgoehkinaaGreatDoor
open Go.RowKit
open Go.Maps (Keyed)

section
variable {β : Type}

open Classical in
noncomputable def shp (mk : β → Value) (v : Value) : Option (DataW β × List MemPlace) :=
  if h : ∃ c, v = mk c then some (.held (Classical.choose h), []) else none

theorem shp_inv {mk : β → Value} {v : Value} {y : DataW β × List MemPlace} (h : shp mk v = some y) : ∃ c, v = mk c ∧ y = (.held c, []) := by
  unfold shp at h
  split at h
  · rename_i hc
    cases h
    exact ⟨_, Classical.choose_spec hc, rfl⟩
  · cases h

theorem shp_mk {mk : β → Value} (hi : ∀ x y, mk x = mk y → x = y) (c : β) : shp mk (mk c) = some (.held c, []) := by
  unfold shp
  have h : ∃ c', mk c = mk c' := ⟨c, rfl⟩
  rw [dif_pos h]
  have := hi _ _ (Classical.choose_spec h)
  rw [← this]
end

structure KeyE (P : Program) (κ : Type) where
  ty : TypeId
  law : Keyed P ty
  val : κ → Value
  lit : κ → Lit
  ok : κ → Prop
  key : ∀ x, ok x → keyOf P ty (val x) = some (lit x)
  inv : ∀ v l, keyOf P ty v = some l → ∃ x, ok x ∧ v = val x
  inj : ∀ x y, val x = val y → x = y

def intK {P : Program} (t : TypeId) (h : P.underlying t = some (.int .i64)) : KeyE P Int where
  ty := t
  law := Maps.int_keyed h
  val := Value.int .i64
  lit := Lit.int .i64
  ok := fun x => (Lit.int .i64 x).wf = true
  key := fun _ hx => Maps.keyOf_int_mk h hx
  inv := fun v l hv => by
    obtain ⟨x, rfl, rfl, hx⟩ := Maps.keyOf_int_inv h hv
    exact ⟨x, hx, rfl⟩
  inj := fun x y e => by cases e; rfl

section
variable {P : Program} {κ β : Type}

theorem KeyE.lit_inj (K : KeyE P κ) {x y : κ} (hx : K.ok x) (hy : K.ok y) (h : K.lit x = K.lit y) : x = y := by
  have h1 := K.key x hx
  have h2 := K.key y hy
  rw [h] at h1
  exact K.inj _ _ (K.law.inj h1 h2)

theorem KeyE.isKey (K : KeyE P κ) {x : κ} (hx : K.ok x) : WideAt.IsKeyLit (K.lit x) := K.law.key (K.key x hx)

def Looks (K : KeyE P κ) (D : DataW β) (f : κ → Option β) : Prop :=
  ∀ x, K.ok x → (f x = none ∧ Maps.has D (K.lit x) = false) ∨ ∃ c, f x = some c ∧ Maps.has D (K.lit x) = true ∧ ∀ z, D.atKey (K.lit x) z = .held c

def MapIs (K : KeyE P κ) (mk : β → Value) (w : World) (b n : Nat) (f : κ → Option β) : Prop :=
  ∃ D : DataW β, w.ownsMap P K.ty (shp mk) b n D ∧ Looks K D f

def MapGo (K : KeyE P κ) (mk : β → Value) (w : World) (b r n : Nat) (f : κ → Option β) (todo : κ → Bool) (cnt : Nat) : Prop :=
  ∃ (D : DataW β) (left : Lit → Bool), w.ranges P K.ty (shp mk) b r n D left cnt ∧ Looks K D f ∧ ∀ x, K.ok x → left (K.lit x) = todo x

variable {K : KeyE P κ} {mk : β → Value} {w w' : World} {b r n cnt : Nat} {f : κ → Option β} {todo : κ → Bool}

theorem MapIs.made (K : KeyE P κ) (mk : β → Value) (w : World) : MapIs K mk (w.alloc (.map #[] 0)) w.heap.size 0 (fun _ => none) :=
  ⟨.map [], World.ownsMap_made w P K.ty (shp mk), fun _ _ => .inl ⟨rfl, rfl⟩⟩
theorem MapIs.lt (h : MapIs K mk w b n f) : b < w.heap.size := by obtain ⟨D, h1, _⟩ := h; exact h1.lt
theorem MapIs.mono (h : MapIs K mk w b n f) {n' : Nat} (hn : n ≤ n') : MapIs K mk w b n' f := by obtain ⟨D, h1, h2⟩ := h; exact ⟨D, h1.mono hn, h2⟩
theorem MapIs.kept {row : Option Nat} (h : MapIs K mk w b n f) (hg : w.grownBy w' row) (hne : some b ≠ row) : MapIs K mk w' b n f := by
  obtain ⟨D, h1, h2⟩ := h
  exact ⟨D, h1.kept hg hne, h2⟩
theorem MapIs.later (h : MapIs K mk w b n f) (hb : Below w.heap.size w w') : MapIs K mk w' b n f :=
  h.kept (row := none) ⟨hb.os, hb.tape, hb.output, hb.size, fun k hk _ => hb.block k hk⟩ (by simp)
theorem MapIs.under {B : Nat} (h : MapIs K mk w b n f) (hb : Below B w w') (hl : b < B) : MapIs K mk w' b n f := by
  obtain ⟨D, ⟨es, clock, e, r⟩, h2⟩ := h
  exact ⟨D, ⟨es, clock, (hb.block b hl).trans e, r⟩, h2⟩
theorem MapIs.same (h : MapIs K mk w b n f) (e : w'.heap[b]? = w.heap[b]?) : MapIs K mk w' b n f := by
  obtain ⟨D, ⟨es, clock, e0, r⟩, h2⟩ := h
  exact ⟨D, ⟨es, clock, e.trans e0, r⟩, h2⟩
theorem MapIs.setCell (h : MapIs K mk w b n f) {a : Addr} (ha : b ≠ a.block) (u : Value) : MapIs K mk (w.setCell a u) b n f := by
  obtain ⟨D, h1, h2⟩ := h
  exact ⟨D, h1.setCell ha u, h2⟩
theorem MapIs.congr {g : κ → Option β} (h : MapIs K mk w b n f) (e : ∀ x, K.ok x → f x = g x) : MapIs K mk w b n g := by
  obtain ⟨D, h1, h2⟩ := h
  refine ⟨D, h1, fun x hx => ?_⟩
  rw [← e x hx]
  exact h2 x hx

theorem MapIs.look_there {t e : TypeId} (h : MapIs K mk w b n f) (ht : P.underlying t = some (.map K.ty e)) {z : Value} (hz : (zeroValue e).run P w = .ok z w) {x : κ} (hx : K.ok x) {c : β} (hf : f x = some c) (ok : Bool) :
    (Instr.lookup t (.map (some b)) (K.val x) ok).run P w = .ok (if ok then .tuple #[mk c, .bool true] else mk c) w := by
  obtain ⟨D, ⟨es, clock, hb, F, _, rfl⟩, hL⟩ := h
  rcases hL x hx with ⟨h1, _⟩ | ⟨c', h1, hh, h2⟩
  · rw [hf] at h1; cases h1
  · rw [hf] at h1
    cases h1
    rcases Maps.fit_look ok K.law ht hz hb F (K.key x hx) with ⟨hrun, _, hat⟩ | ⟨e0, y, _, _, hrun, hRv, hat, _⟩
    · have h3 := Maps.has_false_of_atKey hat
      rw [hh] at h3
      cases h3
    · obtain ⟨c2, e1, e2⟩ := shp_inv hRv
      have h3 : y.1 = .held c := (hat .nil).symm.trans (h2 .nil)
      rw [e2] at h3
      cases h3
      rw [e1] at hrun
      exact hrun

theorem MapIs.look_gone {t e : TypeId} (h : MapIs K mk w b n f) (ht : P.underlying t = some (.map K.ty e)) {z : Value} (hz : (zeroValue e).run P w = .ok z w) {x : κ} (hx : K.ok x) (hf : f x = none) (ok : Bool) :
    (Instr.lookup t (.map (some b)) (K.val x) ok).run P w = .ok (if ok then .tuple #[z, .bool false] else z) w := by
  obtain ⟨D, ⟨es, clock, hb, F, _, rfl⟩, hL⟩ := h
  rcases hL x hx with ⟨_, hh⟩ | ⟨c', h1, _⟩
  · rcases Maps.fit_look ok K.law ht hz hb F (K.key x hx) with ⟨hrun, _, hat⟩ | ⟨e0, y, _, _, hrun, hRv, hat, _⟩
    · exact hrun
    · have h3 := Maps.has_true_of_atKey hat
      rw [hh] at h3
      cases h3
  · rw [hf] at h1; cases h1

theorem MapIs.len {t e : TypeId} (h : MapIs K mk w b n f) (ht : P.underlying t = some (.map K.ty e)) (ty : TypeId) : ∃ k : Nat, k ≤ n ∧ (Builtin.len_ #[t] ty #[.map (some b)]).run P w = .ok (.int .i64 k) w := by
  obtain ⟨D, h1, _⟩ := h
  exact ⟨_, h1.size_le, h1.len ht ty⟩

theorem MapGo.is (h : MapGo K mk w b r n f todo cnt) : MapIs K mk w b n f := by
  obtain ⟨D, left, h1, h2, _⟩ := h
  exact ⟨D, h1.owns, h2⟩
theorem MapGo.lt (h : MapGo K mk w b r n f todo cnt) : r < w.heap.size := by obtain ⟨D, left, h1, _⟩ := h; exact h1.lt
theorem MapGo.kept {row : Option Nat} (h : MapGo K mk w b r n f todo cnt) (hg : w.grownBy w' row) (h1 : some b ≠ row) (h2 : some r ≠ row) : MapGo K mk w' b r n f todo cnt := by
  obtain ⟨D, left, h3, h4⟩ := h
  exact ⟨D, left, h3.kept hg h1 h2, h4⟩
theorem MapGo.later (h : MapGo K mk w b r n f todo cnt) (hb : Below w.heap.size w w') : MapGo K mk w' b r n f todo cnt :=
  h.kept (row := none) ⟨hb.os, hb.tape, hb.output, hb.size, fun k hk _ => hb.block k hk⟩ (by simp) (by simp)
variable [DecidableEq κ]

theorem Looks.put {D : DataW β} (h : Looks K D f) (hD : Maps.IsMap D) {x : κ} (hx : K.ok x) (c : β) : Looks K (D.put (K.lit x) (.held c)) (fun y => if y = x then some c else f y) := by
  intro y hy
  by_cases e : y = x
  · subst e
    refine .inr ⟨c, by simp, Maps.has_put_same hD (K.isKey hy) _, fun z => Maps.atKey_put_same hD (K.isKey hy) _ z⟩
  · have hne : K.lit y ≠ K.lit x := fun e2 => e (K.lit_inj hy hx e2)
    rcases h y hy with ⟨h1, h2⟩ | ⟨c', h1, h2, h3⟩
    · exact .inl ⟨by simp [e, h1], by rw [Maps.has_put_other hne]; exact h2⟩
    · exact .inr ⟨c', by simp [e, h1], by rw [Maps.has_put_other hne]; exact h2, fun z => by rw [Maps.atKey_put_other hne]; exact h3 z⟩

theorem MapIs.put {t e : TypeId} (h : MapIs K mk w b n f) (hi : ∀ x y, mk x = mk y → x = y) (ht : P.underlying t = some (.map K.ty e)) (hn : n < maxLen) {x : κ} (hx : K.ok x) (c : β) :
    ∃ w', (Instr.mapUpdate t (.map (some b)) (K.val x) (mk c)).run P w = .ok () w' ∧ MapIs K mk w' b (n + 1) (fun y => if y = x then some c else f y) ∧ w.grownBy w' (some b) ∧ w'.heap.size = w.heap.size := by
  obtain ⟨D, h1, h2⟩ := h
  obtain ⟨w', r1, r2, r3⟩ := h1.store K.law ht hn (K.key x hx) (shp_mk hi c)
  refine ⟨w', r1, ⟨_, r2, h2.put h1.isMap hx c⟩, r3.grown, ?_⟩
  obtain ⟨_, _, _, _, _, rfl⟩ := r3
  simp [ChangeMaps.setBlock]

theorem wpList_put {ops : Array Oper} {rest : List Oper} {o : Oper} {a : Act} {Q : Exit → Act → World → Prop} (hg : o.guard = none) (m x v : Operand) (t : TypeId) (hop : o.op = Op.mapUpdate t m x v)
    (K : KeyE P κ) (mk : β → Value) (hi : ∀ x y, mk x = mk y → x = y) (e : TypeId) (ht : P.underlying t = some (.map K.ty e)) (b n : Nat) (f : κ → Option β)
    (hm : a.eval m = .map (some b)) (h : MapIs K mk w b n f) (hn : n < maxLen) (y : κ) (c : β) (hx : a.eval x = K.val y) (hv : a.eval v = mk c) (hok : K.ok y)
    (hK : ∀ w', MapIs K mk w' b (n + 1) (fun z => if z = y then some c else f z) → w.grownBy w' (some b) → w'.heap.size = w.heap.size → wpList P ops Q rest (a.put o.dst undef) w') :
    wpList P ops Q (o :: rest) a w := by
  refine wpList_plain hg fun K' hK' => ?_
  obtain ⟨w', hrun, r1, r2, r3⟩ := h.put hi ht hn hok c
  unfold Oper.wp
  simp [execOp, hop, hm, hx, hv, hrun, Result.andThen]
  exact hK' _ _ (hK w' r1 r2 r3)

end

end Go.Proofs.YtlifgcgoehkinaaGreatDoor
