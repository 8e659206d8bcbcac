/- Texts of our own, joined. -/
import Derived.Test.YtahebgceoidebabGreatJb
import Derived.Maps.RangeWalk
import Derived.Maps.OwnSet
import Derived.Test.YtahebgceoidebabGreatJc
import Derived.Test.YtahebgceoidebabGreatJh
import Derived.Test.YtahebgceoidebabGreatJd
import Derived.Laws.StructEq
import Derived.Test.YtahebgceoidebabGreatJe
import Derived.Test.YtahebgceoidebabGreatJg
import Derived.WalkSmall
/- Maps of a call's own, as functions: at each key what stands there, or nothing. -/
namespace Go.Proofs.YtahebgceoidebabGreat
open Go.RowKit
open Go.Maps (Keyed)

section
variable {β : Type}

open Classical in
/-- An element of a map, told by what it is the value of. -/
noncomputable def shp (mk : β → Value) (v : Value) : Option (DataW β × List MemPlace) :=
  if h : ∃ c, v = mk c then some (.held (Classical.choose h), []) else none

theorem shp_inv {mk : β → Value} {v : Value} {y : DataW β × List MemPlace} (h : shp mk v = some y) : ∃ c, v = mk c ∧ y = (.held c, []) := by
  unfold shp at h
  split at h
  · rename_i hc
    cases h
    exact ⟨_, Classical.choose_spec hc, rfl⟩
  · cases h

theorem shp_mk {mk : β → Value} (hi : ∀ x y, mk x = mk y → x = y) (c : β) : shp mk (mk c) = some (.held c, []) := by
  unfold shp
  have h : ∃ c', mk c = mk c' := ⟨c, rfl⟩
  rw [dif_pos h]
  have := hi _ _ (Classical.choose_spec h)
  rw [← this]
end

/-- How keys stand. -/
structure KeyE (P : Program) (κ : Type) where
  ty : TypeId
  law : Keyed P ty
  val : κ → Value
  lit : κ → Lit
  ok : κ → Prop
  key : ∀ x, ok x → keyOf P ty (val x) = some (lit x)
  inv : ∀ v l, keyOf P ty v = some l → ∃ x, ok x ∧ v = val x
  inj : ∀ x y, val x = val y → x = y

/-- Whole numbers as keys. -/
def intK {P : Program} (t : TypeId) (h : P.underlying t = some (.int .i64)) : KeyE P Int where
  ty := t
  law := Maps.int_keyed h
  val := Value.int .i64
  lit := Lit.int .i64
  ok := fun x => (Lit.int .i64 x).wf = true
  key := fun _ hx => Maps.keyOf_int_mk h hx
  inv := fun v l hv => by
    obtain ⟨x, rfl, rfl, hx⟩ := Maps.keyOf_int_inv h hv
    exact ⟨x, hx, rfl⟩
  inj := fun x y e => by cases e; rfl

section
variable {P : Program} {κ β : Type}

theorem KeyE.lit_inj (K : KeyE P κ) {x y : κ} (hx : K.ok x) (hy : K.ok y) (h : K.lit x = K.lit y) : x = y := by
  have h1 := K.key x hx
  have h2 := K.key y hy
  rw [h] at h1
  exact K.inj _ _ (K.law.inj h1 h2)

theorem KeyE.isKey (K : KeyE P κ) {x : κ} (hx : K.ok x) : WideAt.IsKeyLit (K.lit x) := K.law.key (K.key x hx)

/-- What a datum has at each key. -/
def Looks (K : KeyE P κ) (D : DataW β) (f : κ → Option β) : Prop :=
  ∀ x, K.ok x → (f x = none ∧ Maps.has D (K.lit x) = false) ∨ ∃ c, f x = some c ∧ Maps.has D (K.lit x) = true ∧ ∀ z, D.atKey (K.lit x) z = .held c

/-- The map in the block b holds f, in at most n entries. -/
def MapIs (K : KeyE P κ) (mk : β → Value) (w : World) (b n : Nat) (f : κ → Option β) : Prop :=
  ∃ D : DataW β, w.ownsMap P K.ty (shp mk) b n D ∧ Looks K D f

/-- It is gone through: what is still to come. -/
def MapGo (K : KeyE P κ) (mk : β → Value) (w : World) (b r n : Nat) (f : κ → Option β) (todo : κ → Bool) (cnt : Nat) : Prop :=
  ∃ (D : DataW β) (left : Lit → Bool), w.ranges P K.ty (shp mk) b r n D left cnt ∧ Looks K D f ∧ ∀ x, K.ok x → left (K.lit x) = todo x

variable {K : KeyE P κ} {mk : β → Value} {w w' : World} {b r n cnt : Nat} {f : κ → Option β} {todo : κ → Bool}

theorem MapIs.made (K : KeyE P κ) (mk : β → Value) (w : World) : MapIs K mk (w.alloc (.map #[] 0)) w.heap.size 0 (fun _ => none) :=
  ⟨.map [], World.ownsMap_made w P K.ty (shp mk), fun _ _ => .inl ⟨rfl, rfl⟩⟩
theorem MapIs.lt (h : MapIs K mk w b n f) : b < w.heap.size := by obtain ⟨D, h1, _⟩ := h; exact h1.lt
theorem MapIs.mono (h : MapIs K mk w b n f) {n' : Nat} (hn : n ≤ n') : MapIs K mk w b n' f := by obtain ⟨D, h1, h2⟩ := h; exact ⟨D, h1.mono hn, h2⟩
theorem MapIs.kept {row : Option Nat} (h : MapIs K mk w b n f) (hg : w.grownBy w' row) (hne : some b ≠ row) : MapIs K mk w' b n f := by
  obtain ⟨D, h1, h2⟩ := h
  exact ⟨D, h1.kept hg hne, h2⟩
theorem MapIs.later (h : MapIs K mk w b n f) (hb : Below w.heap.size w w') : MapIs K mk w' b n f :=
  h.kept (row := none) ⟨hb.os, hb.tape, hb.output, hb.size, fun k hk _ => hb.block k hk⟩ (by simp)
theorem MapIs.under {B : Nat} (h : MapIs K mk w b n f) (hb : Below B w w') (hl : b < B) : MapIs K mk w' b n f := by
  obtain ⟨D, ⟨es, clock, e, r⟩, h2⟩ := h
  exact ⟨D, ⟨es, clock, (hb.block b hl).trans e, r⟩, h2⟩
theorem MapIs.same (h : MapIs K mk w b n f) (e : w'.heap[b]? = w.heap[b]?) : MapIs K mk w' b n f := by
  obtain ⟨D, ⟨es, clock, e0, r⟩, h2⟩ := h
  exact ⟨D, ⟨es, clock, e.trans e0, r⟩, h2⟩
theorem MapIs.setCell (h : MapIs K mk w b n f) {a : Addr} (ha : b ≠ a.block) (u : Value) : MapIs K mk (w.setCell a u) b n f := by
  obtain ⟨D, h1, h2⟩ := h
  exact ⟨D, h1.setCell ha u, h2⟩
theorem MapIs.congr {g : κ → Option β} (h : MapIs K mk w b n f) (e : ∀ x, K.ok x → f x = g x) : MapIs K mk w b n g := by
  obtain ⟨D, h1, h2⟩ := h
  refine ⟨D, h1, fun x hx => ?_⟩
  rw [← e x hx]
  exact h2 x hx

/-- A block is no map and a row of cells. -/
theorem MapIs.notBox {cs : Array Value} {t : TypeId} (h : MapIs K mk w b n f) {g : Nat} (hb : Box w g cs t) : b ≠ g := by
  obtain ⟨D, ⟨es, clock, e, _⟩, _⟩ := h
  rintro rfl
  unfold Box at hb
  rw [e] at hb
  cases hb

theorem MapIs.look_there {t e : TypeId} (h : MapIs K mk w b n f) (ht : P.underlying t = some (.map K.ty e)) {z : Value} (hz : (zeroValue e).run P w = .ok z w) {x : κ} (hx : K.ok x) {c : β} (hf : f x = some c) (ok : Bool) :
    (Instr.lookup t (.map (some b)) (K.val x) ok).run P w = .ok (if ok then .tuple #[mk c, .bool true] else mk c) w := by
  obtain ⟨D, ⟨es, clock, hb, F, _, rfl⟩, hL⟩ := h
  rcases hL x hx with ⟨h1, _⟩ | ⟨c', h1, hh, h2⟩
  · rw [hf] at h1; cases h1
  · rw [hf] at h1
    cases h1
    rcases Maps.fit_look ok K.law ht hz hb F (K.key x hx) with ⟨hrun, _, hat⟩ | ⟨e0, y, _, _, hrun, hRv, hat, _⟩
    · have h3 := Maps.has_false_of_atKey hat
      rw [hh] at h3
      cases h3
    · obtain ⟨c2, e1, e2⟩ := shp_inv hRv
      have h3 : y.1 = .held c := (hat .nil).symm.trans (h2 .nil)
      rw [e2] at h3
      cases h3
      rw [e1] at hrun
      exact hrun

theorem MapIs.look_gone {t e : TypeId} (h : MapIs K mk w b n f) (ht : P.underlying t = some (.map K.ty e)) {z : Value} (hz : (zeroValue e).run P w = .ok z w) {x : κ} (hx : K.ok x) (hf : f x = none) (ok : Bool) :
    (Instr.lookup t (.map (some b)) (K.val x) ok).run P w = .ok (if ok then .tuple #[z, .bool false] else z) w := by
  obtain ⟨D, ⟨es, clock, hb, F, _, rfl⟩, hL⟩ := h
  rcases hL x hx with ⟨_, hh⟩ | ⟨c', h1, _⟩
  · rcases Maps.fit_look ok K.law ht hz hb F (K.key x hx) with ⟨hrun, _, hat⟩ | ⟨e0, y, _, _, hrun, hRv, hat, _⟩
    · exact hrun
    · have h3 := Maps.has_true_of_atKey hat
      rw [hh] at h3
      cases h3
  · rw [hf] at h1; cases h1

theorem MapIs.len {t e : TypeId} (h : MapIs K mk w b n f) (ht : P.underlying t = some (.map K.ty e)) (ty : TypeId) : ∃ k : Nat, k ≤ n ∧ (Builtin.len_ #[t] ty #[.map (some b)]).run P w = .ok (.int .i64 k) w := by
  obtain ⟨D, h1, _⟩ := h
  exact ⟨_, h1.size_le, h1.len ht ty⟩

/-! ### gone through -/
theorem MapGo.is (h : MapGo K mk w b r n f todo cnt) : MapIs K mk w b n f := by
  obtain ⟨D, left, h1, h2, _⟩ := h
  exact ⟨D, h1.owns, h2⟩
theorem MapGo.left_eq (h : MapGo K mk w b r n f todo cnt) : w.rangeLeft b r = cnt := by obtain ⟨D, left, h1, _⟩ := h; exact h1.left_eq
theorem MapGo.ne (h : MapGo K mk w b r n f todo cnt) : r ≠ b := by obtain ⟨D, left, h1, _⟩ := h; exact h1.ne
theorem MapGo.lt (h : MapGo K mk w b r n f todo cnt) : r < w.heap.size := by obtain ⟨D, left, h1, _⟩ := h; exact h1.lt
theorem MapGo.kept {row : Option Nat} (h : MapGo K mk w b r n f todo cnt) (hg : w.grownBy w' row) (h1 : some b ≠ row) (h2 : some r ≠ row) : MapGo K mk w' b r n f todo cnt := by
  obtain ⟨D, left, h3, h4⟩ := h
  exact ⟨D, left, h3.kept hg h1 h2, h4⟩
theorem MapGo.later (h : MapGo K mk w b r n f todo cnt) (hb : Below w.heap.size w w') : MapGo K mk w' b r n f todo cnt :=
  h.kept (row := none) ⟨hb.os, hb.tape, hb.output, hb.size, fun k hk _ => hb.block k hk⟩ (by simp) (by simp)
theorem MapGo.notBox {cs : Array Value} {t : TypeId} (h : MapGo K mk w b r n f todo cnt) {g : Nat} (hb : Box w g cs t) : r ≠ g := by
  obtain ⟨D, left, ⟨es, clock, _, _, _, _, _, _, _, e, _⟩, _⟩ := h
  rintro rfl
  unfold Box at hb
  rw [e] at hb
  cases hb

/-- 'range m', at the operation. -/
theorem wpList_range_is {ops : Array Oper} {rest : List Oper} {o : Oper} {a : Act} {Q : Exit → Act → World → Prop} (hg : o.guard = none) (m : Operand) (t : TypeId) (hop : o.op = Op.range t m)
    (K : KeyE P κ) (mk : β → Value) (e : TypeId) (ht : P.underlying t = some (.map K.ty e)) (b n : Nat) (f : κ → Option β) (hm : a.eval m = .map (some b)) (h : MapIs K mk w b n f)
    (hK : ∀ w' cnt, cnt ≤ n → MapGo K mk w' b w.heap.size n f (fun x => (f x).isSome) cnt → w.grownBy w' none → w'.heap.size = w.heap.size + 1 → wpList P ops Q rest (a.put o.dst (.pointer (some ⟨w.heap.size, 0, none⟩))) w') :
    wpList P ops Q (o :: rest) a w := by
  obtain ⟨D, h1, h2⟩ := h
  refine wpList_range_own w hg m t hop K.ty e K.law ht (shp mk) b n D hm h1 fun w' r1 r2 r3 => hK w' _ h1.size_le ⟨D, _, r1, h2, fun x hx => ?_⟩ r2 r3
  rcases h2 x hx with ⟨e1, e2⟩ | ⟨c, e1, e2, _⟩
  · show _ = (f x).isSome
    rw [e1, e2]; rfl
  · show _ = (f x).isSome
    rw [e1, e2]; rfl

variable [DecidableEq κ]

theorem Looks.put {D : DataW β} (h : Looks K D f) (hD : Maps.IsMap D) {x : κ} (hx : K.ok x) (c : β) : Looks K (D.put (K.lit x) (.held c)) (fun y => if y = x then some c else f y) := by
  intro y hy
  by_cases e : y = x
  · subst e
    refine .inr ⟨c, by simp, Maps.has_put_same hD (K.isKey hy) _, fun z => Maps.atKey_put_same hD (K.isKey hy) _ z⟩
  · have hne : K.lit y ≠ K.lit x := fun e2 => e (K.lit_inj hy hx e2)
    rcases h y hy with ⟨h1, h2⟩ | ⟨c', h1, h2, h3⟩
    · exact .inl ⟨by simp [e, h1], by rw [Maps.has_put_other hne]; exact h2⟩
    · exact .inr ⟨c', by simp [e, h1], by rw [Maps.has_put_other hne]; exact h2, fun z => by rw [Maps.atKey_put_other hne]; exact h3 z⟩

theorem Looks.del {D : DataW β} (h : Looks K D f) {x : κ} (hx : K.ok x) : Looks K (D.del (K.lit x)) (fun y => if y = x then none else f y) := by
  intro y hy
  by_cases e : y = x
  · subst e
    exact .inl ⟨by simp, Maps.has_del_same⟩
  · have hne : K.lit y ≠ K.lit x := fun e2 => e (K.lit_inj hy hx e2)
    rcases h y hy with ⟨h1, h2⟩ | ⟨c', h1, h2, h3⟩
    · exact .inl ⟨by simp [e, h1], by rw [Maps.has_del_other hne]; exact h2⟩
    · exact .inr ⟨c', by simp [e, h1], by rw [Maps.has_del_other hne]; exact h2, fun z => by rw [Maps.atKey_del_other hne]; exact h3 z⟩

/-- A store. -/
theorem MapIs.put {t e : TypeId} (h : MapIs K mk w b n f) (hi : ∀ x y, mk x = mk y → x = y) (ht : P.underlying t = some (.map K.ty e)) (hn : n < maxLen) {x : κ} (hx : K.ok x) (c : β) :
    ∃ w', (Instr.mapUpdate t (.map (some b)) (K.val x) (mk c)).run P w = .ok () w' ∧ MapIs K mk w' b (n + 1) (fun y => if y = x then some c else f y) ∧ w.grownBy w' (some b) ∧ w'.heap.size = w.heap.size := by
  obtain ⟨D, h1, h2⟩ := h
  obtain ⟨w', r1, r2, r3⟩ := h1.store K.law ht hn (K.key x hx) (shp_mk hi c)
  refine ⟨w', r1, ⟨_, r2, h2.put h1.isMap hx c⟩, r3.grown, ?_⟩
  obtain ⟨_, _, _, _, _, rfl⟩ := r3
  simp [ChangeMaps.setBlock]

theorem MapIs.del {t e : TypeId} (h : MapIs K mk w b n f) (ht : P.underlying t = some (.map K.ty e)) {x : κ} (hx : K.ok x) (ty : TypeId) :
    ∃ w', (Builtin.delete_ #[t, K.ty] ty #[.map (some b), K.val x]).run P w = .ok (.tuple #[]) w' ∧ MapIs K mk w' b n (fun y => if y = x then none else f y) ∧ w.grownBy w' (some b) ∧ w'.heap.size = w.heap.size := by
  obtain ⟨D, h1, h2⟩ := h
  obtain ⟨w', r1, r2, r3⟩ := h1.drop K.law ht (K.key x hx) ty
  refine ⟨w', r1, ⟨_, r2, h2.del hx⟩, r3.grown, ?_⟩
  obtain ⟨_, _, _, _, _, rfl⟩ := r3
  simp [ChangeMaps.setBlock]

/-- A store, at the operation. -/
theorem wpList_put {ops : Array Oper} {rest : List Oper} {o : Oper} {a : Act} {Q : Exit → Act → World → Prop} (hg : o.guard = none) (m x v : Operand) (t : TypeId) (hop : o.op = Op.mapUpdate t m x v)
    (K : KeyE P κ) (mk : β → Value) (hi : ∀ x y, mk x = mk y → x = y) (e : TypeId) (ht : P.underlying t = some (.map K.ty e)) (b n : Nat) (f : κ → Option β)
    (hm : a.eval m = .map (some b)) (h : MapIs K mk w b n f) (hn : n < maxLen) (y : κ) (c : β) (hx : a.eval x = K.val y) (hv : a.eval v = mk c) (hok : K.ok y)
    (hK : ∀ w', MapIs K mk w' b (n + 1) (fun z => if z = y then some c else f z) → w.grownBy w' (some b) → w'.heap.size = w.heap.size → wpList P ops Q rest (a.put o.dst undef) w') :
    wpList P ops Q (o :: rest) a w := by
  refine wpList_plain hg fun K' hK' => ?_
  obtain ⟨w', hrun, r1, r2, r3⟩ := h.put hi ht hn hok c
  unfold Oper.wp
  simp [execOp, hop, hm, hx, hv, hrun, Result.andThen]
  exact hK' _ _ (hK w' r1 r2 r3)

/-- A delete, at the operation. -/
theorem wpList_del {ops : Array Oper} {rest : List Oper} {o : Oper} {a : Act} {Q : Exit → Act → World → Prop} (hg : o.guard = none) (m x : Operand) (t : TypeId) (K : KeyE P κ) (hop : o.op = Op.call { callee := Callee.builtin Builtin.delete, args := #[m, x], argTypes := #[t, K.ty] })
    (mk : β → Value) (e : TypeId) (ht : P.underlying t = some (.map K.ty e)) (b n : Nat) (f : κ → Option β)
    (hm : a.eval m = .map (some b)) (h : MapIs K mk w b n f) (y : κ) (hx : a.eval x = K.val y) (hok : K.ok y)
    (hK : ∀ w', MapIs K mk w' b n (fun z => if z = y then none else f z) → w.grownBy w' (some b) → w'.heap.size = w.heap.size → wpList P ops Q rest (a.put o.dst (.tuple #[])) w') :
    wpList P ops Q (o :: rest) a w := by
  refine wpList_plain hg fun K' hK' => ?_
  obtain ⟨w', hrun, r1, r2, r3⟩ := h.del ht hok o.type
  unfold Oper.wp
  simp [execOp, hop, resolve, invoke, builtin, hm, hx, hrun, Result.andThen]
  exact hK' _ _ (hK w' r1 r2 r3)

/-- 'next', at the operation. -/
theorem wpList_next_is {ops : Array Oper} {rest : List Oper} {o : Oper} {a : Act} {Q : Exit → Act → World → Prop} (hg : o.guard = none) (it : Operand) (hop : o.op = Op.next it false)
    (K : KeyE P κ) (mk : β → Value) (hi : ∀ x y, mk x = mk y → x = y) (b r n : Nat) (f : κ → Option β) (todo : κ → Bool) (cnt : Nat) (hit : a.eval it = .pointer (some ⟨r, 0, none⟩)) (h : MapGo K mk w b r n f todo cnt)
    (hDone : (∀ x, K.ok x → todo x = false) → wpList P ops Q rest (a.put o.dst (.tuple #[.bool false])) w)
    (hMore : ∀ (x : κ) (c : β) (w' : World) (cnt' : Nat), K.ok x → todo x = true → f x = some c → MapGo K mk w' b r n f (fun y => todo y && !decide (y = x)) cnt' → cnt' < cnt → w.grownBy w' (some r) → w'.heap.size = w.heap.size →
      (Instr.entry (.pointer (some ⟨r, 0, none⟩))).run P w' = .ok (.tuple #[K.val x, mk c]) w' → wpList P ops Q rest (a.put o.dst (.tuple #[.bool true, K.val x, mk c])) w') :
    wpList P ops Q (o :: rest) a w := by
  obtain ⟨D, left, h1, h2, h3⟩ := h
  refine wpList_next_ranges (α := κ) (β := β) w hg it hop K.ty K.law (shp mk) K.val mk (fun key kl hk => ?_) (fun v y hv => ?_) b r n D left cnt hit h1 (fun _ hl => hDone fun x hx => by rw [← h3 x hx]; exact hl _) ?_
  · obtain ⟨x, _, rfl⟩ := K.inv key kl hk
    exact ⟨x, rfl⟩
  · obtain ⟨c, rfl, _⟩ := shp_inv hv
    exact ⟨c, rfl⟩
  · intro x c kl y w' cnt' hk hl hv hat hrg hlt hgr hsz hen
    obtain ⟨x', hx', e⟩ := K.inv _ _ hk
    have e' := K.inj _ _ e
    subst e'
    have ek : kl = K.lit x := Option.some.inj (hk.symm.trans (K.key x hx'))
    subst ek
    have hf : f x = some c := by
      have hh : Maps.has D (K.lit x) = true := Maps.has_true_of_atKey hat
      rcases h2 x hx' with ⟨_, e3⟩ | ⟨c', e3, _, e4⟩
      · rw [hh] at e3; cases e3
      · obtain ⟨c2, e5, e6⟩ := shp_inv hv
        have e7 : y.1 = .held c' := (hat .nil).symm.trans (e4 .nil)
        rw [e6] at e7
        cases e7
        rw [e3, hi _ _ e5]
    refine hMore x c w' cnt' hx' (by rw [← h3 x hx']; exact hl) hf ⟨D, _, hrg, h2, fun y' hy' => ?_⟩ hlt hgr hsz hen
    by_cases e3 : y' = x
    · subst e3
      simp [WideAt.sameKey_self (K.isKey hy')]
    · have : (K.lit y').sameKey (K.lit x) = false := Maps.sameKey_ne (fun e4 => e3 (K.lit_inj hy' hx' e4))
      rw [this, h3 y' hy']
      simp [e3]
end

end Go.Proofs.YtahebgceoidebabGreat

/- States held against each other, and right states, plainly. -/
namespace Go.Proofs.YtahebgceoidebabGreat

/-- The same boxes. -/
noncomputable def sameS (ps bs : List Bx) : Bool := @decide (ps = bs) (Classical.propDecidable _)
theorem sameS_yes {ps bs : List Bx} (h : ps = bs) : sameS ps bs = true := @decide_eq_true _ (Classical.propDecidable _) h
theorem sameS_no {ps bs : List Bx} (h : ps ≠ bs) : sameS ps bs = false := @decide_eq_false _ (Classical.propDecidable _) h
theorem sameS_len {ps bs : List Bx} (h : ps.length ≠ bs.length) : sameS ps bs = false := sameS_no (fun e => h (by rw [e]))
theorem sameS_part {ps bs : List Bx} {i : Nat} {a b : Bx} (ha : ps[i]? = some a) (hb : bs[i]? = some b) (h : a ≠ b) : sameS ps bs = false := sameS_no (fun e => h (by rw [e, hb] at ha; exact (Option.some.inj ha).symm))
theorem sameS_all {ps bs : List Bx} (hl : ps.length = bs.length) (h : ∀ (i : Nat) (a b : Bx), ps[i]? = some a → bs[i]? = some b → a = b) : sameS ps bs = true :=
  sameS_yes (List.ext_getElem? fun i => by
    by_cases c : i < ps.length
    · have h1 : ps[i]? = some ps[i] := List.getElem?_eq_getElem c
      have h2 : bs[i]? = some (bs[i]'(by omega)) := List.getElem?_eq_getElem (by omega)
      rw [h1, h2, h i _ _ h1 h2]
    · rw [List.getElem?_eq_none (by omega), List.getElem?_eq_none (by omega)])
theorem bx_same {a b : Bx} (h1 : a.valid = b.valid) (h2 : a.user = b.user) (h3 : a.name = b.name) (h4 : a.next = b.next) (hl : a.mails.length = b.mails.length) (h : ∀ (k : Nat) (x y : Ml), a.mails[k]? = some x → b.mails[k]? = some y → x = y) : a = b := by
  obtain ⟨v, u, n, x, m⟩ := a
  obtain ⟨v', u', n', x', m'⟩ := b
  simp only at h1 h2 h3 h4 hl h
  subst h1 h2 h3 h4
  have : m = m' := List.ext_getElem? fun i => by
    by_cases c : i < m.length
    · have e1 : m[i]? = some m[i] := List.getElem?_eq_getElem c
      have e2 : m'[i]? = some (m'[i]'(by omega)) := List.getElem?_eq_getElem (by omega)
      rw [e1, e2, h i _ _ e1 e2]
    · rw [List.getElem?_eq_none (by omega), List.getElem?_eq_none (by omega)]
  rw [this]

end Go.Proofs.YtahebgceoidebabGreat

/- States held against each other: the model's SameState. -/
namespace Go.Proofs.YtahebgceoidebabGreat
open Go.RowKit

theorem Box.five {w : World} {b : Nat} {u0 u1 u2 u3 u4 : Value} {t : TypeId} (h : Box w b #[u0, u1, u2, u3, u4] t) : w.cell? ⟨b, 0, none⟩ = some u0 ∧ w.cell? ⟨b, 1, none⟩ = some u1 ∧ w.cell? ⟨b, 2, none⟩ = some u2 ∧ w.cell? ⟨b, 3, none⟩ = some u3 ∧ w.cell? ⟨b, 4, none⟩ = some u4 :=
  ⟨h.cell 0 _ rfl, h.cell 1 _ rfl, h.cell 2 _ rfl, h.cell 3 _ rfl, h.cell 4 _ rfl⟩
/-- Mails that can be read, ps a loop reads them. -/
def MlRow (w : World) (ad : Option Addr) (l : List Ml) : Prop := ∀ X, Below w.heap.size w X → ∀ i m, l[i]? = some m → ∃ g off, ad = some ⟨g, off, none⟩ ∧ X.cell? ⟨g, off + i * 3, none⟩ = some (.int .i64 m.uid) ∧ X.cell? ⟨g, off + i * 3 + 1, none⟩ = some (.int .i64 m.flags) ∧ X.cell? ⟨g, off + i * 3 + 2, none⟩ = some (.string m.text)
theorem MlRow.get {w : World} {ad : Option Addr} {l : List Ml} (h : MlRow w ad l) {X : World} (hb : Below w.heap.size w X) {i : Nat} {m : Ml} (hi : l[i]? = some m) : ∃ g off, ad = some ⟨g, off, none⟩ ∧ X.cell? ⟨g, off + i * 3, none⟩ = some (.int .i64 m.uid) ∧ X.cell? ⟨g, off + i * 3 + 1, none⟩ = some (.int .i64 m.flags) ∧ X.cell? ⟨g, off + i * 3 + 2, none⟩ = some (.string m.text) := h X hb i m hi
theorem Rows'.mails {w : World} {a : Option Addr} {n c : Nat} {l : List Ml} (h : Rows' mlE w (.slice a n c) l) : n = l.length ∧ MlRow w a l := by
  rcases h.ways with ⟨rfl, a, c, e⟩ | ⟨hne, g, off, c, e, hc, hg, hcl⟩
  · cases e
    exact ⟨rfl, fun X _ i x hi => by cases hi⟩
  · cases e
    exact ⟨rfl, fun X hb i x hi => ⟨g, off, rfl, ml_cells hcl hg hb i x hi⟩⟩

theorem ba_same' (a b : ByteArray) : a.toList = b.toList ↔ a = b := by
  have h := ba_beq a b
  constructor
  · intro e
    rw [beq_iff_eq.2 e] at h
    exact of_decide_eq_true h.symm
  · intro e; rw [e]


end Go.Proofs.YtahebgceoidebabGreat

/- NextsOf of either side: a RecBox of each box of which less, or nothing, is left. -/
namespace Go.Proofs.YtahebgceoidebabGreat
open Go.RowKit

def nxR (b : Bx) : Rc := ⟨1, b.valid, 0, b.next, 0, b.user, b.name, ⟨#[]⟩⟩
def toldB (ts : List Bx) (b : Bx) : Bool := ts.any (fun y => decide (y.valid = b.valid ∧ b.next ≤ y.next))
def nxs (ts ss : List Bx) : List Rc := (ss.filter (fun b => !toldB ts b)).map nxR
theorem nxs_told {ts ss : List Bx} {i : Nat} {b : Bx} (h : ss[i]? = some b) (ht : toldB ts b = true) : nxs ts (ss.take (i + 1)) = nxs ts (ss.take i) := by
  unfold nxs
  rw [List.take_add_one, h, List.filter_append]
  simp [ht]
theorem nxs_new {ts ss : List Bx} {i : Nat} {b : Bx} (h : ss[i]? = some b) (ht : toldB ts b = false) : nxs ts (ss.take (i + 1)) = nxs ts (ss.take i) ++ [nxR b] := by
  unfold nxs
  rw [List.take_add_one, h, List.filter_append]
  simp [ht]
theorem nxs_len (ts ss : List Bx) : (nxs ts ss).length ≤ ss.length := by
  unfold nxs
  rw [List.length_map]
  exact List.length_filter_le _ _
theorem toldB_step {ts : List Bx} {k : Nat} {y b : Bx} (h : ts[k]? = some y) : toldB (ts.take (k + 1)) b = (toldB (ts.take k) b || decide (y.valid = b.valid ∧ b.next ≤ y.next)) := by
  unfold toldB
  rw [List.take_add_one, h, List.any_append]
  simp

/-- Every block but one is as it was. -/
theorem KS.app {w x y : World} {gO : Nat} {r : Option Nat} (h : KS w gO none x) (hg : x.grownBy y r) (hr : ∀ k, r = some k → k = gO ∨ w.heap.size ≤ k) : KS w gO none y :=
  ⟨Nat.le_trans h.size hg.size, fun g hg2 h1 h2 => (hg.block g (Nat.lt_of_lt_of_le hg2 h.size) (fun e => by rcases hr g e.symm with e2 | e2 <;> omega)).trans (h.same g hg2 h1 h2)⟩
theorem RBuf.ks {α : Type} {E : Enc α} {B gO : Nat} {w x : World} {v : Value} {l : List α} (h : RBuf E B w w v l) (hk : KS w gO none x) (hB : gO < B) : RBuf E B x x v l :=
  h.stay hk.size (fun k hb => hk.same k (h.own.lt k hb).2 (by have := (h.own.lt k hb).1; omega) (by simp))
theorem Box.ks {w x : World} {gO b : Nat} {cs : Array Value} {t : TypeId} (h : Box w b cs t) (hk : KS w gO none x) (hB : b ≠ gO) : Box x b cs t := h.stay (hk.same b h.lt hB (by simp))
theorem StO.ks {B gO : Nat} {w x : World} {v : Value} {bs : List Bx} {hs : List BxH} (h : StO B w v bs hs) (hk : KS w gO none x) (hB : gO < B) : StO B x v bs hs :=
  ⟨h.row.ks hk hB, h.len, fun j y b h1 h2 => ⟨(h.at' j y b h1 h2).1, (h.at' j y b h1 h2).2.ks hk hB⟩, h.far, h.apart⟩
theorem BRd.at5 {x : World} {ad : Option Addr} {n cap : Nat} {bs : List Bx} (h : BRd x (.slice ad n cap) bs) {i : Nat} {b : Bx} (hi : bs[i]? = some b) : ∃ (g off : Nat) (a : Option Addr) (m c : Nat), ad = some ⟨g, off, none⟩ ∧
    x.cell? ⟨g, off + i * 5, none⟩ = some (.int .i64 b.valid) ∧ x.cell? ⟨g, off + i * 5 + 1, none⟩ = some (.string b.user) ∧ x.cell? ⟨g, off + i * 5 + 2, none⟩ = some (.string b.name) ∧ x.cell? ⟨g, off + i * 5 + 3, none⟩ = some (.int .i64 b.next) ∧ x.cell? ⟨g, off + i * 5 + 4, none⟩ = some (.slice a m c) := by
  obtain ⟨ad', cap', e, H⟩ := h.boxes
  obtain ⟨g, off, a, m, c, e2, p0, p1, p2, p3, p4, _⟩ := H x (Below.refl _ _) i b hi
  simp only [Value.slice.injEq] at e
  rw [e.1]
  exact ⟨g, off, a, m, c, e2, p0, p1, p2, p3, p4⟩
theorem BRd.long {x : World} {v : Value} {bs : List Bx} (h : BRd x v bs) : ∃ ad cap, v = .slice ad bs.length cap := by
  obtain ⟨ad, cap, e, _⟩ := h.boxes
  exact ⟨ad, cap, e⟩

set_option maxRecDepth 100000 in
set_option maxHeartbeats 4000000 in
theorem specNextsOf_any (l : List Itm) (d : List Bool) (v vd : Value) (w : World) (h : Rows' itE w v l) (hd : Rows' boE w vd d) (hl : l.length ≤ 1048576) (hz : ∀ x ∈ l, x.2.user.size ≤ 1048576 ∧ x.2.name.size ≤ 1048576 ∧ x.2.text.size ≤ 1048576) :
    Calls Tryz.prog 17 #[v, vd] w fun e w' => ∃ v', e = .returned v' ∧ RBuf rcE w.heap.size w w' v' (nxs (stateL (wo l d)) (stateL l)) := by
  have HL : Hid (∀ x, Below w.heap.size w x → Rows' itE x v l) := fun x hx => h.later hx
  have HD : Hid (∀ x, Below w.heap.size w x → Rows' boE x vd d) := fun x hx => hd.later hx
  have HS1 : Hid (StateC 28 l) := fun v X hX => specStateOf_any l v X hX (by omega) (fun x hx => by have := hz x hx; omega)
  have HS2 : Hid (StateC 28 (wo l d)) := fun v X hX => specStateOf_any (wo l d) v X hX (by have := wo_len l d; omega) (fun x hx => by have := hz x (woT_mem hx); omega)
  have hsm := stateL_small l
  have htm := stateL_small (wo l d)
  unfold StateC at HS1 HS2
  obtain ⟨ad, cap, rfl, _⟩ := h.items
  obtain ⟨ab, cab, rfl, _⟩ := hd.bools
  generalize stateL l = ss at HS1 hsm ⊢
  have HWO := Lib.hid (fun va vb x h1 h2 => specWithout_any l d va vb x h1 h2 hl)
  generalize stateL (wo l d) = ts at HS2 htm ⊢
  have hs1 := hsm.1
  have ht1 := htm.1
  clear h hd hz hsm htm
  have I0 := RBuf.fresh rcE w
  go_enter Tryz.func17, Tryz.ntmps17
  go_wp2_with fail
  have e1 : (w.alloc (.cells #[] 43)).heap.size = w.heap.size + 1 := by simp
  change RBuf rcE w.heap.size w (w.alloc (.cells #[] 43)) _ _ at I0
  have hlt1 : w.heap.size < (w.alloc (.cells #[] 43)).heap.size := by omega
  clear e1
  generalize w.alloc (.cells #[] 43) = w1 at I0 hlt1 ⊢
  have b1 := I0.bel
  have HW1 := Lib.hid hlt1
  clear hlt1
  refine (HS1.out _ _ (HL.out _ b1)).mono ?_
  rintro e w2 ⟨v6, hs6, rfl, S6, k2⟩
  replace I0 := I0.later k2
  obtain ⟨p6, d6, rfl⟩ := S6.rd.long
  have X6 := Box.new w2 #[.slice p6 ss.length d6] 55
  have k3 := belNew w2 (.cells #[.slice p6 ss.length d6] 55)
  have Z2 := Lib.hid k2.size
  replace I0 := I0.later k3
  replace S6 := S6.later k3
  clear k2 k3 b1
  go_upto_region 3 with fail
  generalize w2.alloc (.cells #[.slice p6 ss.length d6] 55) = w3 at I0 X6 S6 ⊢
  have Z6 : Hid (w.heap.size < w2.heap.size) := by have := HW1.out; have := Z2.out; show _ < _; omega
  generalize w2.heap.size = g6 at X6 Z6 ⊢
  go_wp2_with fail
  refine (HWO.out _ _ _ (HL.out _ I0.bel) (HD.out _ I0.bel)).mono ?_
  rintro e w4 ⟨v4, rfl, R4⟩
  have k4 := R4.bel
  replace I0 := I0.later k4
  replace S6 := S6.later k4
  replace X6 := X6.later k4
  obtain ⟨a4, c4, rfl⟩ := R4.form
  clear k4
  go_wp2_with fail
  refine (HS2.out _ _ R4.rows).mono ?_
  rintro e w5 ⟨v7, hs7, rfl, S7, k5⟩
  have Z4 : Hid (w.heap.size < w4.heap.size) := by have := X6.lt; have := Z6.out; show _ < _; omega
  replace I0 := I0.later k5
  replace S6 := S6.later k5
  replace X6 := X6.later k5
  obtain ⟨p7, d7, rfl⟩ := S7.rd.long
  have X7 := Box.new w5 #[.slice p7 ts.length d7] 55
  have k6 := belNew w5 (.cells #[.slice p7 ts.length d7] 55)
  have Z5 : Hid (w.heap.size < w5.heap.size) := by have := X6.lt; have := Z6.out; show _ < _; omega
  replace I0 := I0.later k6
  replace S6 := S6.later k6
  replace X6 := X6.later k6
  replace S7 := S7.later k6
  clear k5 k6 R4 HWO
  go_upto_region 4 with fail
  generalize w5.alloc (.cells #[.slice p7 ts.length d7] 55) = w8 at I0 X6 X7 S6 S7 ⊢
  generalize w5.heap.size = g7 at X7 Z5 ⊢
  obtain ⟨gO, hgO⟩ : ∃ gO, w.heap.size = gO := ⟨_, rfl⟩
  have H8 : Hid (∀ x, KS w8 gO none x → BRd x (.slice p6 ss.length d6) ss ∧ BRd x (.slice p7 ts.length d7) ts ∧ x.cell? ⟨g6, 0, none⟩ = some (.slice p6 ss.length d6) ∧ x.cell? ⟨g7, 0, none⟩ = some (.slice p7 ts.length d7)) := fun x hx =>
    ⟨(S6.ks hx (by rw [← hgO]; exact HW1.out)).rd, (S7.ks hx (by rw [← hgO]; exact Z4.out)).rd, (X6.ks hx (by have := Z6.out; omega)).cell 0 _ rfl, (X7.ks hx (by have := Z5.out; omega)).cell 0 _ rfl⟩
  clear S6 S7 X6 X7 HL HD HS1 HS2 Z2 Z4 Z5 Z6 HW1
  rw [hgO] at I0 ⊢
  have HGO := Lib.hid hgO
  clear hgO
  obtain ⟨n, hn⟩ : ∃ n, ss.length = n := ⟨_, rfl⟩
  obtain ⟨m, hm⟩ : ∃ m, ts.length = m := ⟨_, rfl⟩
  rw [hn, hm] at H8
  have HN := Lib.hid hn
  have HM := Lib.hid hm
  rw [hn] at hs1
  rw [hm] at ht1
  clear hn hm
  go_wp2
  go_loopw [5, 8] (fun v iv wr => ∃ i : Nat, i ≤ n ∧ iv = .int .i64 (i : Int) ∧ RBuf rcE gO w wr v (nxs ts (ss.take i)) ∧ KS w8 gO none wr ∧ ∀ k, v.ownBlock = some k → k = gO ∨ w8.heap.size ≤ k) (fun _ iv _ => n - (intOf iv).toNat)
  case atStart => exact ⟨0, by omega, rfl, I0, ⟨Nat.le_refl _, fun _ _ _ _ => rfl⟩, fun k hk => by cases hk; exact .inl rfl⟩
  case round =>
    clear I0
    obtain ⟨i, hi, rfl, I, ks, ho⟩ := hrel
    have HO := Lib.hid ho
    clear ho
    obtain ⟨BS, _, y6, _⟩ := H8.out _ ks
    by_cases hlt : i < n
    · obtain ⟨b, hgb⟩ : ∃ b, ss[i]? = some b := ⟨_, List.getElem?_eq_getElem (by rw [HN.out]; exact hlt)⟩
      obtain ⟨gs, os, am, nm, cm, rfl, p0, p1, p2, p3, p4⟩ := BS.at5 hgb
      have hlu : (nxs ts (ss.take i)).length ≤ 1048576 := by have := nxs_len ts (ss.take i); rw [List.length_take] at this; omega
      have HT := Lib.hid (fun h => nxs_told (ts := ts) hgb h)
      have HW := Lib.hid (fun h => nxs_new (ts := ts) hgb h)
      obtain ⟨us, hus⟩ : ∃ us, nxs ts (ss.take i) = us := ⟨_, rfl⟩
      rw [hus] at I hlu HT HW
      have hi0 : (0 : Int) ≤ (i : Int) := by omega
      have hi1 : (i : Int) < (n : Int) := by omega
      obtain ⟨bV, bU, bN, bX, bM⟩ := b
      simp only at p0 p1 p2 p3 p4
      have XB := Box.new wr #[.int .i64 bV, .string bU, .string bN, .int .i64 bX, .slice am nm cm] 59
      have k9 := belNew wr (.cells #[.int .i64 bV, .string bU, .string bN, .int .i64 bX, .slice am nm cm] 59)
      replace I := I.later k9
      replace ks := ks.later k9
      clear BS hgb hus k9
      go_upto_region 8 with fail
      clear y6 p0 p1 p2 p3 p4
      generalize wr.alloc (.cells #[.int .i64 bV, .string bU, .string bN, .int .i64 bX, .slice am nm cm] 59) = w9 at XB I ks ⊢
      generalize wr.heap.size = g9 at XB ⊢
      obtain ⟨c0, c1, c2, c3, _⟩ := XB.five
      have HXB := Lib.hid XB
      have HI := Lib.hid I
      have HKS := Lib.hid ks
      clear XB I ks
      have T0 : toldB (ts.take 0) ⟨bV, bU, bN, bX, bM⟩ = false := rfl
      go_wp2
      go_loopw [10, 11] (fun tv kv wq => ∃ k : Nat, k ≤ m ∧ kv = .int .i64 (k : Int) ∧ tv = .bool (toldB (ts.take k) ⟨bV, bU, bN, bX, bM⟩) ∧ Below w9.heap.size w9 wq) (fun _ kv _ => m - (intOf kv).toNat)
      case atStart => exact ⟨0, by omega, rfl, by rw [T0], Below.refl _ _⟩
      case round =>
        clear T0 c0 c1 c2 c3
        obtain ⟨k, hk, rfl, rfl, bq⟩ := hrel
        obtain ⟨_, BT, _, y7⟩ := H8.out _ (HKS.out.later bq)
        obtain ⟨c0, c1, c2, c3, _⟩ := (HXB.out.later bq).five
        by_cases hlk : k < m
        · obtain ⟨y, hgy⟩ : ∃ y, ts[k]? = some y := ⟨_, List.getElem?_eq_getElem (by rw [HM.out]; exact hlk)⟩
          obtain ⟨gt, ot, at', nt, ct, rfl, t0, _, _, t3, _⟩ := BT.at5 hgy
          have HST := Lib.hid (toldB_step (b := ⟨bV, bU, bN, bX, bM⟩) hgy)
          obtain ⟨yV, yU, yN, yX, yM⟩ := y
          simp only at t0 t3 HST
          have hk0 : (0 : Int) ≤ (k : Int) := by omega
          have hk1 : (k : Int) < (m : Int) := by omega
          clear hgy BT
          generalize toldB (ts.take k) ⟨bV, bU, bN, bX, bM⟩ = T at HST ⊢
          cases T with
          | true =>
            clear t0 t3 c0 c1 c2 c3
            go_wp2
            go_quiet (fail)
            go_wp2
            go_roundw
            case rel => exact ⟨k + 1, by omega, by go_num, by rw [HST.out]; rfl, below_drewN bq _⟩
            case measure => simp [intOf]; omega
          | false =>
            by_cases hv : yV = bV
            · subst hv
              by_cases hx : bX ≤ yX
              · have HR : Hid (toldB (ts.take (k + 1)) ⟨yV, bU, bN, bX, bM⟩ = true) := by rw [HST.out]; show _ = _; rw [decide_eq_true (show yV = yV ∧ bX ≤ yX from ⟨rfl, hx⟩)]; rfl
                clear HST
                go_wp2
                go_quiet (fail)
                go_wp2
                go_roundw
                case rel => exact ⟨k + 1, by omega, by go_num, by rw [HR.out], below_drewN bq _⟩
                case measure => simp [intOf]; omega
              · have HR : Hid (toldB (ts.take (k + 1)) ⟨yV, bU, bN, bX, bM⟩ = false) := by rw [HST.out]; show _ = _; rw [decide_eq_false (fun c => hx c.2)]; rfl
                clear HST
                go_wp2
                go_quiet (fail)
                go_wp2
                go_roundw
                case rel => exact ⟨k + 1, by omega, by go_num, by rw [HR.out, decide_eq_false (by omega)], below_drewN bq _⟩
                case measure => simp [intOf]; omega
            · have hv' : (yV == bV) = false := beq_eq_false_iff_ne.2 hv
              have HR : Hid (toldB (ts.take (k + 1)) ⟨bV, bU, bN, bX, bM⟩ = false) := by rw [HST.out]; show _ = _; rw [decide_eq_false (fun c => hv c.1)]; rfl
              clear HST
              go_wp2
              go_quiet (fail)
              go_wp2
              go_roundw
              case rel => exact ⟨k + 1, by omega, by go_num, by rw [HR.out], below_drewN bq _⟩
              case measure => simp [intOf]; omega
        · have hkm : Hid (ts.take k = ts) := by
            show ts.take k = ts
            exact List.take_of_length_le (by rw [HM.out]; omega)
          rw [hkm.out]
          clear BT hkm
          generalize hT : toldB ts ⟨bV, bU, bN, bX, bM⟩ = T
          cases T with
          | true =>
            have HE := Lib.hid (HT.out hT)
            clear hT HT HW c0 c1 c2 c3
            go_wp2
            exact ⟨⟨i + 1, by omega, by simp, by rw [HE.out]; exact HI.out.later bq, HKS.out.later bq, HO.out⟩, by first | omega | (simp [intOf]; omega)⟩
          | false =>
            have HE := Lib.hid (HW.out hT)
            unfold nxR at HE
            have J := HI.out.later bq
            have HR6 := Lib.hid (J.alloc (.cells #[.int .i64 1, .int .i64 bV, .int .i64 0, .int .i64 bX, .int .i64 0, .string bU, .string bN, .string ⟨#[]⟩] 43))
            have HL6 := Lib.hid (RBuf.lit1 rcE wr ⟨1, bV, 0, bX, 0, bU, bN, ⟨#[]⟩⟩)
            have HKA := Lib.hid ((HKS.out.later bq).later (belNew wr (.cells #[.int .i64 1, .int .i64 bV, .int .i64 0, .int .i64 bX, .int .i64 0, .string bU, .string bN, .string ⟨#[]⟩] 43)))
            clear hT HT HW J
            go_wp2_with (at_builtin; refine wpList_append_rows rfl _ _ rcE rfl gO _ _ rfl HR6.out.here wr.heap.size _ [⟨1, bV, 0, bX, 0, bU, bN, ⟨#[]⟩⟩] rfl HL6.out (by show _ * 89 ≤ _; simp only [List.length_cons, List.length_nil]; omega) ?_; intro v6 w6 r6 g6 at6)
            exact ⟨⟨i + 1, by omega, by simp, by rw [HE.out]; exact ⟨r6.own, HR6.out.bel.grown g6 HR6.out.le (fun k hk => (HR6.out.own.lt k hk).1), r6.le⟩, HKA.out.app g6 HO.out, fun k hk => by
              rcases at6 with e | e
              · exact HO.out k (e ▸ hk)
              · rw [e] at hk; cases hk; exact .inr HKA.out.size⟩, by first | omega | (simp [intOf]; omega)⟩
    · clear BS
      go_wp2
      go_ret
      refine ⟨_, rfl, ?_⟩
      have hil : ss.take i = ss := List.take_of_length_le (by rw [HN.out]; omega)
      rw [hil] at I
      rw [HGO.out]
      exact I

end Go.Proofs.YtahebgceoidebabGreat

/- What records tell, gathered box by box, plainly. -/
namespace Go.Proofs.YtahebgceoidebabGreat

/-- What the records of one box tell, as far as they came. -/
structure Tb where
  named : Itm
  next : Int
  adds : Int → Option Itm
  flags : Int → Option Itm
def Tb.nil : Tb := ⟨(0, Rc.nil), 0, fun _ => none, fun _ => none⟩

/-- The number of what is there, 0 without it. -/
def sqO (o : Option Itm) : Int := match o with | some y => y.1 | none => 0
/-- The latest one of a mail. -/
def keepL (f : Int → Option Itm) (x : Itm) : Int → Option Itm := if sqO (f x.2.uid) < x.1 then (fun u => if u = x.2.uid then some x else f u) else f
theorem keepL_lt {f : Int → Option Itm} {x : Itm} (h : sqO (f x.2.uid) < x.1) : keepL f x = fun u => if u = x.2.uid then some x else f u := if_pos h
theorem keepL_ge {f : Int → Option Itm} {x : Itm} (h : ¬ sqO (f x.2.uid) < x.1) : keepL f x = f := if_neg h
/-- One record more. -/
def takeT (t : Tb) (x : Itm) : Tb :=
  if x.2.kind = 1 then ⟨if aheadB (fun y => y.2.next) x t.named then x else t.named, max t.next x.2.next, t.adds, t.flags⟩
  else if x.2.kind = 3 then ⟨t.named, max t.next (x.2.uid + 1), keepL t.adds x, t.flags⟩
  else if x.2.kind = 4 then ⟨t.named, t.next, t.adds, keepL t.flags x⟩
  else if x.2.kind = 5 then ⟨t.named, max t.next (x.2.uid + 1), t.adds, t.flags⟩
  else t

def fmT (l : List Itm) (v : Int) : Tb := ⟨(tellO v l).getD (0, Rc.nil), mostOf 0 (nextK v) l, fun u => bestR 3 v u l, fun u => bestR 4 v u l⟩
open Classical in
noncomputable def toldT (l : List Itm) (v : Int) : Option Tb := if ∃ x ∈ l, x.2.valid = v then some (fmT l v) else none

theorem bestO_snoc (k : Itm → Int) (p : Itm → Bool) (l : List Itm) (x : Itm) : bestO k p (l ++ [x]) = bestStep k p (bestO k p l) x := by
  unfold bestO; rw [List.foldl_append]; rfl
theorem mostOf_snoc (b : Int) (f : Itm → Int) (l : List Itm) (x : Itm) : mostOf b f (l ++ [x]) = if mostOf b f l < f x then f x else mostOf b f l := by
  unfold mostOf; rw [List.foldl_append]; rfl
theorem mostOf_ge (b : Int) (f : Itm → Int) (l : List Itm) : b ≤ mostOf b f l := (mostFold f l b).1
theorem bestStep_out {k : Itm → Int} {p : Itm → Bool} {o : Option Itm} {x : Itm} (h : p x = false) : bestStep k p o x = o := by
  unfold bestStep; rw [h]; rfl
theorem bestStep_in {k : Itm → Int} {p : Itm → Bool} {x : Itm} (h : p x = true) : bestStep k p none x = some x := by
  unfold bestStep; rw [if_pos h]
theorem bestStep_more {k : Itm → Int} {p : Itm → Bool} {x y : Itm} (h : p x = true) : bestStep k p (some y) x = if aheadB k x y then some x else some y := by
  unfold bestStep; rw [if_pos h]

/-- Without a record of it nothing is told of a box. -/
theorem fmT_none {l : List Itm} {v : Int} (h : ¬ ∃ x ∈ l, x.2.valid = v) : fmT l v = Tb.nil := by
  have hb : ∀ (k : Itm → Int) (p : Itm → Bool), (∀ x, p x = true → x.2.valid = v) → bestO k p l = none := by
    intro k p hp
    have hI := bestO_I k p l
    cases e : bestO k p l with
    | none => rfl
    | some y =>
      rw [e] at hI
      exact absurd ⟨y, hI.1, hp y hI.2.1⟩ h
  have hm : mostOf 0 (nextK v) l = 0 := by
    have : ∀ (m : List Itm), (∀ x ∈ m, nextK v x = 0) → mostOf 0 (nextK v) m = 0 := by
      intro m
      unfold mostOf
      induction m with
      | nil => intro _; rfl
      | cons x m ih =>
        intro hx
        rw [List.foldl_cons, hx x (by simp)]
        exact ih (fun y hy => hx y (List.mem_cons_of_mem _ hy))
    refine this l (fun x hx => ?_)
    unfold nextK
    rw [if_neg (fun e => h ⟨x, hx, e⟩)]
  unfold fmT Tb.nil
  congr 1
  · unfold tellO
    rw [hb _ _ (fun x hx => (of_decide_eq_true hx).2)]; rfl
  · funext u
    exact hb _ _ (fun x hx => (of_decide_eq_true hx).2.1)
  · funext u
    exact hb _ _ (fun x hx => (of_decide_eq_true hx).2.1)
theorem toldT_getD (l : List Itm) (v : Int) : (toldT l v).getD Tb.nil = fmT l v := by
  unfold toldT
  by_cases h : ∃ x ∈ l, x.2.valid = v
  · rw [if_pos h]; rfl
  · rw [if_neg h, fmT_none h]; rfl
theorem toldT_some {l : List Itm} {v : Int} {t : Tb} (h : toldT l v = some t) : t = fmT l v := by
  unfold toldT at h
  split at h
  · cases h; rfl
  · cases h

theorem fmT_other {l : List Itm} {x : Itm} {v : Int} (hv : x.2.valid ≠ v) : fmT (l ++ [x]) v = fmT l v := by
  have h0 : nextK v x = 0 := by unfold nextK; rw [if_neg hv]
  unfold fmT
  congr 1
  · unfold tellO
    rw [bestO_snoc, bestStep_out (decide_eq_false (fun c => hv c.2))]
  · rw [mostOf_snoc, h0, if_neg (by have := mostOf_ge 0 (nextK v) l; omega)]
  · funext u; unfold bestR; rw [bestO_snoc, bestStep_out (decide_eq_false (fun c => hv c.2.1))]
  · funext u; unfold bestR; rw [bestO_snoc, bestStep_out (decide_eq_false (fun c => hv c.2.1))]

theorem best_keep {kind v : Int} {l : List Itm} {x : Itm} (hv : x.2.valid = v) (hk : x.2.kind = kind) (hs : 1 ≤ x.1) : (fun u => bestR kind v u (l ++ [x])) = keepL (fun u => bestR kind v u l) x := by
  funext u
  by_cases hu : x.2.uid = u
  · have hp : decide (x.2.kind = kind ∧ x.2.valid = v ∧ x.2.uid = u) = true := decide_eq_true ⟨hk, hv, hu⟩
    have e0 : bestR kind v u (l ++ [x]) = bestStep (fun _ => 0) (fun x' => decide (x'.2.kind = kind ∧ x'.2.valid = v ∧ x'.2.uid = u)) (bestR kind v u l) x := bestO_snoc _ _ _ _
    show bestR kind v u (l ++ [x]) = _
    rw [e0]
    cases e : bestR kind v u l with
    | none =>
      have h1 : sqO ((fun u => bestR kind v u l) x.2.uid) < x.1 := by
        show sqO (bestR kind v x.2.uid l) < x.1
        rw [hu, e]; show (0 : Int) < x.1; omega
      rw [bestStep_in hp, keepL_lt h1]
      simp [hu]
    | some y =>
      rw [bestStep_more hp]
      have h0 : sqO ((fun u => bestR kind v u l) x.2.uid) = y.1 := by
        show sqO (bestR kind v x.2.uid l) = y.1
        rw [hu, e]; rfl
      by_cases c : y.1 < x.1
      · rw [keepL_lt (by rw [h0]; exact c), if_pos (by unfold aheadB; exact decide_eq_true (.inr ⟨rfl, c⟩))]; simp [hu]
      · rw [keepL_ge (by rw [h0]; exact c), if_neg (fun h => by unfold aheadB at h; have := of_decide_eq_true h; dsimp only at this; omega)]; exact e.symm
  · have e : bestR kind v u (l ++ [x]) = bestR kind v u l := by
      show bestO _ _ _ = _
      rw [bestO_snoc, bestStep_out (decide_eq_false (fun c => hu c.2.2))]; rfl
    show bestR kind v u (l ++ [x]) = _
    rw [e]
    unfold keepL
    split
    · show _ = if u = x.2.uid then some x else bestR kind v u l
      rw [if_neg (fun c => hu c.symm)]
    · rfl
theorem best_skip {kind v : Int} {l : List Itm} {x : Itm} (hk : x.2.kind ≠ kind) : (fun u => bestR kind v u (l ++ [x])) = fun u => bestR kind v u l := by
  funext u
  show bestO _ _ _ = _
  rw [bestO_snoc, bestStep_out (decide_eq_false (fun c => hk c.1))]; rfl
theorem tell_skip {v : Int} {l : List Itm} {x : Itm} (hk : x.2.kind ≠ 1) : tellO v (l ++ [x]) = tellO v l := by
  unfold tellO
  rw [bestO_snoc, bestStep_out (decide_eq_false (fun c => hk c.1))]
theorem most_max {v : Int} {l : List Itm} {x : Itm} : mostOf 0 (nextK v) (l ++ [x]) = max (mostOf 0 (nextK v) l) (nextK v x) := by
  rw [mostOf_snoc]
  split <;> omega
/-- One record more, told. -/
theorem fmT_step {l : List Itm} {x : Itm} (hs : 1 ≤ x.1) (hok : x.2.ok) : fmT (l ++ [x]) x.2.valid = takeT (fmT l x.2.valid) x := by
  have hge := mostOf_ge 0 (nextK x.2.valid) l
  unfold takeT
  by_cases h1 : x.2.kind = 1
  · rw [if_pos h1]
    have hn : 1 ≤ x.2.next := by
      have h := hok.2.2.1
      rw [if_pos h1] at h
      exact h.2.2.1
    have hnk : nextK x.2.valid x = x.2.next := by unfold nextK; rw [if_pos rfl, if_pos h1]
    unfold fmT
    rw [most_max, hnk, best_skip (by omega), best_skip (by omega)]
    congr 1
    unfold tellO
    rw [bestO_snoc]
    cases e : bestO (fun y => y.2.next) (fun y => decide (y.2.kind = 1 ∧ y.2.valid = x.2.valid)) l with
    | none =>
      rw [bestStep_in (decide_eq_true ⟨h1, rfl⟩)]
      simp only [Option.getD]
      rw [if_pos (by unfold aheadB; exact decide_eq_true (.inl (by show (0 : Int) < x.2.next; omega)))]
    | some y =>
      rw [bestStep_more (decide_eq_true ⟨h1, rfl⟩)]
      by_cases c : aheadB (fun y => y.2.next) x y = true
      · rw [if_pos c]
        show x = if aheadB (fun y => y.2.next) x y = true then x else y
        rw [if_pos c]
      · rw [if_neg c]
        show y = if aheadB (fun y => y.2.next) x y = true then x else y
        rw [if_neg c]
  rw [if_neg h1]
  by_cases h3 : x.2.kind = 3
  · rw [if_pos h3]
    have hnk : nextK x.2.valid x = x.2.uid + 1 := by unfold nextK; rw [if_pos rfl, if_neg h1, if_pos (.inl h3)]
    unfold fmT
    rw [most_max, hnk, best_keep rfl h3 hs, best_skip (kind := 4) (by omega), tell_skip h1]
  rw [if_neg h3]
  by_cases h4 : x.2.kind = 4
  · rw [if_pos h4]
    have hnk : nextK x.2.valid x = 0 := by unfold nextK; rw [if_pos rfl, if_neg h1, if_neg (by omega)]
    unfold fmT
    rw [most_max, hnk, best_keep rfl h4 hs, best_skip (kind := 3) (by omega), tell_skip h1, Int.max_eq_left hge]
  rw [if_neg h4]
  by_cases h5 : x.2.kind = 5
  · rw [if_pos h5]
    have hnk : nextK x.2.valid x = x.2.uid + 1 := by unfold nextK; rw [if_pos rfl, if_neg h1, if_pos (.inr h5)]
    unfold fmT
    rw [most_max, hnk, best_skip (kind := 3) (by omega), best_skip (kind := 4) (by omega), tell_skip h1]
  rw [if_neg h5]
  have hnk : nextK x.2.valid x = 0 := by unfold nextK; rw [if_pos rfl, if_neg h1, if_neg (by omega)]
  unfold fmT
  rw [most_max, hnk, best_skip (kind := 3) (by omega), best_skip (kind := 4) (by omega), tell_skip h1, Int.max_eq_left hge]

theorem toldT_step {l : List Itm} {x : Itm} (hs : 1 ≤ x.1) (hok : x.2.ok) (v : Int) : toldT (l ++ [x]) v = if v = x.2.valid then some (takeT ((toldT l v).getD Tb.nil) x) else toldT l v := by
  by_cases c : v = x.2.valid
  · subst c
    rw [if_pos rfl, toldT_getD]
    unfold toldT
    rw [if_pos ⟨x, by simp, rfl⟩, fmT_step hs hok]
  · rw [if_neg c]
    have hi : (∃ y ∈ l ++ [x], y.2.valid = v) ↔ ∃ y ∈ l, y.2.valid = v := by
      constructor
      · rintro ⟨y, hy, e⟩
        rcases List.mem_append.1 hy with h | h
        · exact ⟨y, h, e⟩
        · simp at h; subst h; exact absurd e.symm c
      · rintro ⟨y, hy, e⟩; exact ⟨y, List.mem_append_left _ hy, e⟩
    unfold toldT
    rw [fmT_other (fun e => c e.symm)]
    by_cases d : ∃ y ∈ l, y.2.valid = v
    · rw [if_pos d, if_pos (hi.2 d)]
    · rw [if_neg d, if_neg (fun h => d (hi.1 h))]
theorem toldT_nil (v : Int) : toldT [] v = none := by unfold toldT; rw [if_neg (by simp)]

end Go.Proofs.YtahebgceoidebabGreat

/- What is gone is taken away, plainly. -/
namespace Go.Proofs.YtahebgceoidebabGreat
open Classical

def dropB (k : List Itm) (v : Int) : Prop := ∃ x ∈ k, x.2.kind = 2 ∧ x.2.valid = v
def goneB (k : List Itm) (v u : Int) : Prop := ∃ x ∈ k, x.2.kind = 5 ∧ x.2.valid = v ∧ x.2.uid = u
noncomputable def lessA (k : List Itm) (v : Int) (t : Tb) : Tb := ⟨t.named, t.next, fun u => if goneB k v u then none else t.adds u, t.flags⟩
noncomputable def delT (T : Int → Option Tb) (k : List Itm) (v : Int) : Option Tb := if dropB k v then none else (T v).map (lessA k v)
/-- A mail taken away. -/
def lessM (u : Int) (t : Tb) : Tb := ⟨t.named, t.next, fun q => if q = u then none else t.adds q, t.flags⟩

theorem dropB_snoc {k : List Itm} {x : Itm} {v : Int} : dropB (k ++ [x]) v ↔ dropB k v ∨ (x.2.kind = 2 ∧ x.2.valid = v) := by
  unfold dropB
  constructor
  · rintro ⟨y, hy, h⟩
    rcases List.mem_append.1 hy with h1 | h1
    · exact .inl ⟨y, h1, h⟩
    · simp at h1; subst h1; exact .inr h
  · rintro (⟨y, hy, h⟩ | h)
    · exact ⟨y, List.mem_append_left _ hy, h⟩
    · exact ⟨x, by simp, h⟩
theorem goneB_snoc {k : List Itm} {x : Itm} {v u : Int} : goneB (k ++ [x]) v u ↔ goneB k v u ∨ (x.2.kind = 5 ∧ x.2.valid = v ∧ x.2.uid = u) := by
  unfold goneB
  constructor
  · rintro ⟨y, hy, h⟩
    rcases List.mem_append.1 hy with h1 | h1
    · exact .inl ⟨y, h1, h⟩
    · simp at h1; subst h1; exact .inr h
  · rintro (⟨y, hy, h⟩ | h)
    · exact ⟨y, List.mem_append_left _ hy, h⟩
    · exact ⟨x, by simp, h⟩
theorem lessA_snoc {k : List Itm} {x : Itm} {v : Int} (h : ¬ (x.2.kind = 5 ∧ x.2.valid = v)) : lessA (k ++ [x]) v = lessA k v := by
  funext t
  unfold lessA
  congr 1
  funext u
  have e : goneB (k ++ [x]) v u ↔ goneB k v u := by
    rw [goneB_snoc]
    exact ⟨fun c => c.elim id (fun c => absurd ⟨c.1, c.2.1⟩ h), .inl⟩
  by_cases c : goneB k v u
  · rw [if_pos c, if_pos (e.2 c)]
  · rw [if_neg c, if_neg (fun d => c (e.1 d))]
theorem lessA_more {k : List Itm} {x : Itm} (h : x.2.kind = 5) (t : Tb) : lessA (k ++ [x]) x.2.valid t = lessM x.2.uid (lessA k x.2.valid t) := by
  unfold lessA lessM
  congr 1
  funext u
  have e := goneB_snoc (k := k) (x := x) (v := x.2.valid) (u := u)
  by_cases c : u = x.2.uid
  · rw [if_pos c, if_pos (e.2 (.inr ⟨h, rfl, c.symm⟩))]
  · rw [if_neg c]
    show _ = if goneB k x.2.valid u then none else t.adds u
    by_cases d : goneB k x.2.valid u
    · rw [if_pos d, if_pos (e.2 (.inl d))]
    · rw [if_neg d, if_neg (fun q => (e.1 q).elim d (fun q => c q.2.2.symm))]
theorem delT_nil (T : Int → Option Tb) (v : Int) : delT T [] v = T v := by
  have h1 : ¬ dropB [] v := by unfold dropB; simp
  have h2 : ∀ t, lessA [] v t = t := fun t => by
    unfold lessA
    have : (fun u => if goneB [] v u then none else t.adds u) = t.adds := by
      funext u
      rw [if_neg (by unfold goneB; simp)]
    rw [this]
  unfold delT
  rw [if_neg h1]
  cases T v with
  | none => rfl
  | some t => simp [h2]
theorem delT_drop {T : Int → Option Tb} {k : List Itm} {x : Itm} (h : x.2.kind = 2) (v : Int) : delT T (k ++ [x]) v = if v = x.2.valid then none else delT T k v := by
  unfold delT
  rw [lessA_snoc (by omega)]
  by_cases c : v = x.2.valid
  · rw [if_pos c, if_pos (dropB_snoc.2 (.inr ⟨h, c.symm⟩))]
  · rw [if_neg c]
    by_cases d : dropB k v
    · rw [if_pos d, if_pos (dropB_snoc.2 (.inl d))]
    · rw [if_neg d, if_neg (fun q => (dropB_snoc.1 q).elim d (fun q => c q.2.symm))]
theorem delT_gone {T : Int → Option Tb} {k : List Itm} {x : Itm} (h : x.2.kind = 5) (v : Int) : delT T (k ++ [x]) v = if v = x.2.valid then (delT T k v).map (lessM x.2.uid) else delT T k v := by
  have hd : dropB (k ++ [x]) v ↔ dropB k v := ⟨fun q => (dropB_snoc.1 q).elim id (fun q => by omega), fun q => dropB_snoc.2 (.inl q)⟩
  unfold delT
  by_cases c : v = x.2.valid
  · subst c
    rw [if_pos rfl]
    by_cases d : dropB k x.2.valid
    · rw [if_pos d, if_pos (hd.2 d)]; rfl
    · rw [if_neg d, if_neg (fun q => d (hd.1 q)), Option.map_map]
      congr 1
      funext t
      exact lessA_more h t
  · rw [if_neg c, lessA_snoc (fun q => c q.2.symm)]
    by_cases d : dropB k v
    · rw [if_pos d, if_pos (hd.2 d)]
    · rw [if_neg d, if_neg (fun q => d (hd.1 q))]
theorem delT_other {T : Int → Option Tb} {k : List Itm} {x : Itm} (h : x.2.kind ≠ 2) (h5 : x.2.kind ≠ 5) (v : Int) : delT T (k ++ [x]) v = delT T k v := by
  have hd : dropB (k ++ [x]) v ↔ dropB k v := ⟨fun q => (dropB_snoc.1 q).elim id (fun q => absurd q.1 h), fun q => dropB_snoc.2 (.inl q)⟩
  unfold delT
  rw [lessA_snoc (fun q => h5 q.1)]
  by_cases d : dropB k v
  · rw [if_pos d, if_pos (hd.2 d)]
  · rw [if_neg d, if_neg (fun q => d (hd.1 q))]
theorem delT_out {T : Int → Option Tb} {k : List Itm} {x : Itm} (h : delT T k x.2.valid = none) (v : Int) : delT T (k ++ [x]) v = delT T k v := by
  by_cases h2 : x.2.kind = 2
  · rw [delT_drop h2]
    by_cases c : v = x.2.valid
    · subst c; rw [if_pos rfl, h]
    · rw [if_neg c]
  by_cases h5 : x.2.kind = 5
  · rw [delT_gone h5]
    by_cases c : v = x.2.valid
    · subst c; rw [if_pos rfl, h]; rfl
    · rw [if_neg c]
  exact delT_other h2 h5 v

end Go.Proofs.YtahebgceoidebabGreat

/- The boxes that are told are those that the records of each Valid tell, plainly. -/
namespace Go.Proofs.YtahebgceoidebabGreat
open Classical in
theorem goneB_if (l : List Itm) (v u : Int) (t : Tb) : (lessA l v t).adds u = if goneB l v u then none else t.adds u := rfl

/-- A mail out of what is gathered. -/
def mlOf (t : Tb) (u : Int) (x : Itm) : Ml := ⟨u, match t.flags u with | some y => y.2.flags | none => x.2.flags, x.2.text⟩

/-- Two rising rows of the same things are one. -/
theorem rise_same {α : Type} (k : α → Int) : ∀ {l m : List α}, l.Pairwise (fun x y => k x < k y) → m.Pairwise (fun x y => k x < k y) → (∀ x, x ∈ l ↔ x ∈ m) → l = m
  | [], [], _, _, _ => rfl
  | [], y :: m, _, _, h => by have := (h y).2 (by simp); cases this
  | x :: l, [], _, _, h => by have := (h x).1 (by simp); cases this
  | x :: l, y :: m, hl, hm, h => by
    rw [List.pairwise_cons] at hl hm
    have e : x = y := by
      rcases List.mem_cons.1 ((h x).1 (by simp)) with e | hx
      · exact e
      · rcases List.mem_cons.1 ((h y).2 (by simp)) with e | hy
        · exact e.symm
        · have := hl.1 y hy; have := hm.1 x hx; omega
    subst e
    rw [rise_same k hl.2 hm.2 (fun z => ?_)]
    constructor
    · intro hz
      rcases List.mem_cons.1 ((h z).1 (List.mem_cons_of_mem _ hz)) with e | hz'
      · have := hl.1 z hz; rw [e] at this; omega
      · exact hz'
    · intro hz
      rcases List.mem_cons.1 ((h z).2 (List.mem_cons_of_mem _ hz)) with e | hz'
      · have := hm.1 z hz; rw [e] at this; omega
      · exact hz'

theorem tellO_none {v : Int} {l : List Itm} (h : tellO v l = none) (x : Itm) (hx : x ∈ l) : ¬ (x.2.kind = 1 ∧ x.2.valid = v) := by
  have := bestO_I (fun x => x.2.next) (fun x => decide (x.2.kind = 1 ∧ x.2.valid = v)) l
  unfold tellO at h
  rw [h] at this
  exact of_decide_eq_false (this x hx)
theorem tellO_some {v : Int} {l : List Itm} {y : Itm} (h : tellO v l = some y) : y ∈ l ∧ y.2.kind = 1 ∧ y.2.valid = v := by
  have := bestO_I (fun x => x.2.next) (fun x => decide (x.2.kind = 1 ∧ x.2.valid = v)) l
  unfold tellO at h
  rw [h] at this
  exact ⟨this.1, of_decide_eq_true this.2.1⟩

/-- What is gathered of the box v, and not dropped. -/
noncomputable def finT (l : List Itm) (v : Int) : Option Tb := delT (toldT l) l v
theorem finT_some {l : List Itm} {v : Int} {t : Tb} (h : finT l v = some t) : t = lessA l v (fmT l v) ∧ ¬ dropB l v := by
  unfold finT delT at h
  split at h
  · cases h
  · rename_i c
    cases e : toldT l v with
    | none => rw [e] at h; cases h
    | some t0 =>
      rw [e] at h
      cases h
      exact ⟨by rw [toldT_some e], c⟩
theorem drop_best {l : List Itm} (hok : ∀ x ∈ l, x.2.ok) (v : Int) : ¬ dropB l v ↔ bestR 2 v 0 l = none := by
  constructor
  · intro h
    cases e : bestR 2 v 0 l with
    | none => rfl
    | some y =>
      obtain ⟨h1, h2, _⟩ := bestR_some e
      exact absurd ⟨y, h1, h2.1, h2.2.1⟩ h
  · rintro h ⟨x, hx, h1, h2⟩
    have hu : x.2.uid = 0 := by
      have := (hok x hx).2.2.2.1
      rw [if_neg (by omega)] at this
      exact this
    exact bestR_none h x hx ⟨h1, h2, hu⟩
/-- A box is told just where one is named, and not dropped. -/
theorem fin_valid {l : List Itm} (hok : ∀ x ∈ l, itOk x) (v : Int) : (∃ t, finT l v = some t ∧ 0 < t.named.1) ↔ v ∈ upOf (validK l) l := by
  have hok' : ∀ x ∈ l, x.2.ok := fun x hx => (hok x hx).2
  rw [mem_valids]
  constructor
  · rintro ⟨t, h1, h2⟩
    obtain ⟨rfl, hd⟩ := finT_some h1
    refine ⟨?_, (drop_best hok' v).1 hd⟩
    cases e : tellO v l with
    | none =>
      have : (lessA l v (fmT l v)).named.1 = 0 := by unfold lessA fmT; simp [e]
      omega
    | some y =>
      obtain ⟨q1, q2, q3⟩ := tellO_some e
      exact ⟨y, q1, q2, q3⟩
  · rintro ⟨⟨x, hx, h1, h2⟩, h3⟩
    have hd := (drop_best hok' v).2 h3
    have ht : toldT l v = some (fmT l v) := by unfold toldT; rw [if_pos ⟨x, hx, h2⟩]
    refine ⟨lessA l v (fmT l v), by unfold finT delT; rw [if_neg hd, ht]; rfl, ?_⟩
    cases e : tellO v l with
    | none => exact absurd ⟨h1, h2⟩ (tellO_none e x hx)
    | some y =>
      have : (lessA l v (fmT l v)).named = y := by unfold lessA fmT; simp [e]
      rw [this]
      have := (hok y (tellO_some e).1).1
      omega
open Classical in
theorem mails_fin {l : List Itm} (v : Int) {t : Tb} (h : t = lessA l v (fmT l v)) {ms : List Ml} (h1 : ∀ m, m ∈ ms ↔ ∃ x, t.adds m.uid = some x ∧ m = mlOf t m.uid x) (h2 : ms.Pairwise (fun x y => x.uid < y.uid)) : ms = mailsOf v l := by
  refine rise_same (fun m => m.uid) h2 (mails_up v l) (fun m => ?_)
  rw [h1 m]
  have hm : m ∈ mailsOf v l ↔ m.uid ∈ upOf (uidK v l) l ∧ m = mailK v l m.uid := by
    unfold mailsOf
    rw [List.mem_map]
    constructor
    · rintro ⟨u, hu, rfl⟩; exact ⟨hu, rfl⟩
    · rintro ⟨hu, e⟩; exact ⟨m.uid, hu, e.symm⟩
  rw [hm, mem_uids]
  have hadds : ∀ u, t.adds u = if goneB l v u then none else bestR 3 v u l := fun u => by rw [h]; rfl
  have hflags : ∀ u, t.flags u = bestR 4 v u l := fun u => by rw [h]; rfl
  have hgone : ∀ u, goneB l v u ↔ ¬ bestR 5 v u l = none := fun u => by
    constructor
    · rintro ⟨x, hx, q⟩ e; exact bestR_none e x hx q
    · intro e
      cases e2 : bestR 5 v u l with
      | none => exact absurd e2 e
      | some y => obtain ⟨q1, q2, _⟩ := bestR_some e2; exact ⟨y, q1, q2⟩
  have hml : ∀ u x, bestR 3 v u l = some x → mlOf t u x = mailK v l u := fun u x e => by
    unfold mlOf mailK
    rw [hflags, e]
    cases bestR 4 v u l <;> rfl
  constructor
  · rintro ⟨x, q1, q2⟩
    rw [hadds] at q1
    split at q1
    · cases q1
    · rename_i c
      have hb5 : bestR 5 v m.uid l = none := Classical.byContradiction (fun d => c ((hgone _).2 d))
      obtain ⟨y1, y2, _⟩ := bestR_some q1
      exact ⟨⟨⟨x, y1, y2⟩, hb5⟩, q2.trans (hml _ _ q1)⟩
  · rintro ⟨⟨⟨x, q1, q2⟩, q3⟩, q4⟩
    obtain ⟨y, hy⟩ := bestR_there q1 q2
    exact ⟨y, by rw [hadds, if_neg (fun c => (hgone _).1 c q3)]; exact hy, q4.trans (hml _ _ hy).symm⟩
theorem most_next {l : List Itm} {v : Int} {x : Itm} (hx : x ∈ l) (h : 1 ≤ nextK v x) : mostOf 0 (nextK v) l = nextOf v l := by
  have a := mostFold (nextK v) l 0
  have b := mostFold (nextK v) l 1
  have a1 := a.2.1 x hx
  have b1 := b.2.1 x hx
  unfold nextOf mostOf
  rcases a.2.2 with e | ⟨y, hy, e⟩
  · omega
  · have b2 := b.2.1 y hy
    rcases b.2.2 with e' | ⟨z, hz, e'⟩
    · omega
    · have a2 := a.2.1 z hz
      omega
/-- The box that is told of it. -/
theorem box_fin {l : List Itm} (hok : ∀ x ∈ l, itOk x) {v : Int} {t : Tb} (h : finT l v = some t) (hs : 0 < t.named.1) {ms : List Ml} (h1 : ∀ m, m ∈ ms ↔ ∃ x, t.adds m.uid = some x ∧ m = mlOf t m.uid x) (h2 : ms.Pairwise (fun x y => x.uid < y.uid)) :
    (⟨t.named.2.valid, t.named.2.user, t.named.2.name, t.next, ms⟩ : Bx) = boxK l v := by
  obtain ⟨ht, hd⟩ := finT_some h
  have hms := mails_fin v ht h1 h2
  cases e : tellO v l with
  | none =>
    have : t.named.1 = 0 := by rw [ht]; unfold lessA fmT; simp [e]
    omega
  | some y =>
    have hn : t.named = y := by rw [ht]; unfold lessA fmT; simp [e]
    obtain ⟨y1, y2, y3⟩ := tellO_some e
    have hnx : 1 ≤ nextK v y := by
      unfold nextK
      rw [if_pos y3, if_pos y2]
      have := (hok y y1).2.2.2.1
      rw [if_pos y2] at this
      exact this.2.2.1
    have hnext : t.next = nextOf v l := by rw [ht]; exact most_next y1 hnx
    unfold boxK
    rw [e, hn, hnext, hms, y3]
    rfl

end Go.Proofs.YtahebgceoidebabGreat
