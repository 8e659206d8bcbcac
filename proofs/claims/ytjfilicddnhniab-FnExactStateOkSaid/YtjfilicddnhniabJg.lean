/- Texts of our own, joined. -/
import Derived.Test.YtjfilicddnhniabJc
import Derived.Maps.RangeWalk
import Derived.Maps.OwnSet
import Derived.DeepKeys4
import Derived.WalkArith
import Derived.Test.YtjfilicddnhniabJb
import Derived.Test.YtjfilicddnhniabJd
import Derived.Test.YtjfilicddnhniabJe
import Derived.Test.YtjfilicddnhniabJf
import Derived.WalkSmall
/- Maps of a call's own, as functions: at each key what stands there, or nothing. -/
namespace Go.Proofs.Ytjfilicddnhniab
open Go.RowKit
open Go.Maps (Keyed)

section
variable {β : Type}

open Classical in
/-- An element of a map, told by what it is the value of. -/
noncomputable def shp (mk : β → Value) (v : Value) : Option (DataW β × List MemPlace) :=
  if h : ∃ c, v = mk c then some (.held (Classical.choose h), []) else none

theorem shp_inv {mk : β → Value} {v : Value} {y : DataW β × List MemPlace} (h : shp mk v = some y) : ∃ c, v = mk c ∧ y = (.held c, []) := by
  unfold shp at h
  split at h
  · rename_i hc
    cases h
    exact ⟨_, Classical.choose_spec hc, rfl⟩
  · cases h

theorem shp_mk {mk : β → Value} (hi : ∀ x y, mk x = mk y → x = y) (c : β) : shp mk (mk c) = some (.held c, []) := by
  unfold shp
  have h : ∃ c', mk c = mk c' := ⟨c, rfl⟩
  rw [dif_pos h]
  have := hi _ _ (Classical.choose_spec h)
  rw [← this]
end

/-- How keys stand. -/
structure KeyE (P : Program) (κ : Type) where
  ty : TypeId
  law : Keyed P ty
  val : κ → Value
  lit : κ → Lit
  ok : κ → Prop
  key : ∀ x, ok x → keyOf P ty (val x) = some (lit x)
  inv : ∀ v l, keyOf P ty v = some l → ∃ x, ok x ∧ v = val x
  inj : ∀ x y, val x = val y → x = y

/-- Whole numbers as keys. -/
def intK {P : Program} (t : TypeId) (h : P.underlying t = some (.int .i64)) : KeyE P Int where
  ty := t
  law := Maps.int_keyed h
  val := Value.int .i64
  lit := Lit.int .i64
  ok := fun x => (Lit.int .i64 x).wf = true
  key := fun _ hx => Maps.keyOf_int_mk h hx
  inv := fun v l hv => by
    obtain ⟨x, rfl, rfl, hx⟩ := Maps.keyOf_int_inv h hv
    exact ⟨x, hx, rfl⟩
  inj := fun x y e => by cases e; rfl

section
variable {P : Program} {κ β : Type}

theorem KeyE.lit_inj (K : KeyE P κ) {x y : κ} (hx : K.ok x) (hy : K.ok y) (h : K.lit x = K.lit y) : x = y := by
  have h1 := K.key x hx
  have h2 := K.key y hy
  rw [h] at h1
  exact K.inj _ _ (K.law.inj h1 h2)

theorem KeyE.isKey (K : KeyE P κ) {x : κ} (hx : K.ok x) : WideAt.IsKeyLit (K.lit x) := K.law.key (K.key x hx)

/-- What a datum has at each key. -/
def Looks (K : KeyE P κ) (D : DataW β) (f : κ → Option β) : Prop :=
  ∀ x, K.ok x → (f x = none ∧ Maps.has D (K.lit x) = false) ∨ ∃ c, f x = some c ∧ Maps.has D (K.lit x) = true ∧ ∀ z, D.atKey (K.lit x) z = .held c

/-- The map in the block b holds f, in at most n entries. -/
def MapIs (K : KeyE P κ) (mk : β → Value) (w : World) (b n : Nat) (f : κ → Option β) : Prop :=
  ∃ D : DataW β, w.ownsMap P K.ty (shp mk) b n D ∧ Looks K D f

/-- It is gone through: what is still to come. -/
def MapGo (K : KeyE P κ) (mk : β → Value) (w : World) (b r n : Nat) (f : κ → Option β) (todo : κ → Bool) (cnt : Nat) : Prop :=
  ∃ (D : DataW β) (left : Lit → Bool), w.ranges P K.ty (shp mk) b r n D left cnt ∧ Looks K D f ∧ ∀ x, K.ok x → left (K.lit x) = todo x

variable {K : KeyE P κ} {mk : β → Value} {w w' : World} {b r n cnt : Nat} {f : κ → Option β} {todo : κ → Bool}

theorem MapIs.made (K : KeyE P κ) (mk : β → Value) (w : World) : MapIs K mk (w.alloc (.map #[] 0)) w.heap.size 0 (fun _ => none) :=
  ⟨.map [], World.ownsMap_made w P K.ty (shp mk), fun _ _ => .inl ⟨rfl, rfl⟩⟩
theorem MapIs.lt (h : MapIs K mk w b n f) : b < w.heap.size := by obtain ⟨D, h1, _⟩ := h; exact h1.lt
theorem MapIs.mono (h : MapIs K mk w b n f) {n' : Nat} (hn : n ≤ n') : MapIs K mk w b n' f := by obtain ⟨D, h1, h2⟩ := h; exact ⟨D, h1.mono hn, h2⟩
theorem MapIs.kept {row : Option Nat} (h : MapIs K mk w b n f) (hg : w.grownBy w' row) (hne : some b ≠ row) : MapIs K mk w' b n f := by
  obtain ⟨D, h1, h2⟩ := h
  exact ⟨D, h1.kept hg hne, h2⟩
theorem MapIs.later (h : MapIs K mk w b n f) (hb : Below w.heap.size w w') : MapIs K mk w' b n f :=
  h.kept (row := none) ⟨hb.os, hb.tape, hb.output, hb.size, fun k hk _ => hb.block k hk⟩ (by simp)
theorem MapIs.under {B : Nat} (h : MapIs K mk w b n f) (hb : Below B w w') (hl : b < B) : MapIs K mk w' b n f := by
  obtain ⟨D, ⟨es, clock, e, r⟩, h2⟩ := h
  exact ⟨D, ⟨es, clock, (hb.block b hl).trans e, r⟩, h2⟩
theorem MapIs.same (h : MapIs K mk w b n f) (e : w'.heap[b]? = w.heap[b]?) : MapIs K mk w' b n f := by
  obtain ⟨D, ⟨es, clock, e0, r⟩, h2⟩ := h
  exact ⟨D, ⟨es, clock, e.trans e0, r⟩, h2⟩
theorem MapIs.setCell (h : MapIs K mk w b n f) {a : Addr} (ha : b ≠ a.block) (u : Value) : MapIs K mk (w.setCell a u) b n f := by
  obtain ⟨D, h1, h2⟩ := h
  exact ⟨D, h1.setCell ha u, h2⟩
theorem MapIs.congr {g : κ → Option β} (h : MapIs K mk w b n f) (e : ∀ x, K.ok x → f x = g x) : MapIs K mk w b n g := by
  obtain ⟨D, h1, h2⟩ := h
  refine ⟨D, h1, fun x hx => ?_⟩
  rw [← e x hx]
  exact h2 x hx

/-- A block is no map and a row of cells. -/
theorem MapIs.notBox {cs : Array Value} {t : TypeId} (h : MapIs K mk w b n f) {g : Nat} (hb : Box w g cs t) : b ≠ g := by
  obtain ⟨D, ⟨es, clock, e, _⟩, _⟩ := h
  rintro rfl
  unfold Box at hb
  rw [e] at hb
  cases hb

theorem MapIs.look_there {t e : TypeId} (h : MapIs K mk w b n f) (ht : P.underlying t = some (.map K.ty e)) {z : Value} (hz : (zeroValue e).run P w = .ok z w) {x : κ} (hx : K.ok x) {c : β} (hf : f x = some c) (ok : Bool) :
    (Instr.lookup t (.map (some b)) (K.val x) ok).run P w = .ok (if ok then .tuple #[mk c, .bool true] else mk c) w := by
  obtain ⟨D, ⟨es, clock, hb, F, _, rfl⟩, hL⟩ := h
  rcases hL x hx with ⟨h1, _⟩ | ⟨c', h1, hh, h2⟩
  · rw [hf] at h1; cases h1
  · rw [hf] at h1
    cases h1
    rcases Maps.fit_look ok K.law ht hz hb F (K.key x hx) with ⟨hrun, _, hat⟩ | ⟨e0, y, _, _, hrun, hRv, hat, _⟩
    · have h3 := Maps.has_false_of_atKey hat
      rw [hh] at h3
      cases h3
    · obtain ⟨c2, e1, e2⟩ := shp_inv hRv
      have h3 : y.1 = .held c := (hat .nil).symm.trans (h2 .nil)
      rw [e2] at h3
      cases h3
      rw [e1] at hrun
      exact hrun

theorem MapIs.look_gone {t e : TypeId} (h : MapIs K mk w b n f) (ht : P.underlying t = some (.map K.ty e)) {z : Value} (hz : (zeroValue e).run P w = .ok z w) {x : κ} (hx : K.ok x) (hf : f x = none) (ok : Bool) :
    (Instr.lookup t (.map (some b)) (K.val x) ok).run P w = .ok (if ok then .tuple #[z, .bool false] else z) w := by
  obtain ⟨D, ⟨es, clock, hb, F, _, rfl⟩, hL⟩ := h
  rcases hL x hx with ⟨_, hh⟩ | ⟨c', h1, _⟩
  · rcases Maps.fit_look ok K.law ht hz hb F (K.key x hx) with ⟨hrun, _, hat⟩ | ⟨e0, y, _, _, hrun, hRv, hat, _⟩
    · exact hrun
    · have h3 := Maps.has_true_of_atKey hat
      rw [hh] at h3
      cases h3
  · rw [hf] at h1; cases h1

theorem MapIs.len {t e : TypeId} (h : MapIs K mk w b n f) (ht : P.underlying t = some (.map K.ty e)) (ty : TypeId) : ∃ k : Nat, k ≤ n ∧ (Builtin.len_ #[t] ty #[.map (some b)]).run P w = .ok (.int .i64 k) w := by
  obtain ⟨D, h1, _⟩ := h
  exact ⟨_, h1.size_le, h1.len ht ty⟩

/-! ### gone through -/
theorem MapGo.is (h : MapGo K mk w b r n f todo cnt) : MapIs K mk w b n f := by
  obtain ⟨D, left, h1, h2, _⟩ := h
  exact ⟨D, h1.owns, h2⟩
theorem MapGo.left_eq (h : MapGo K mk w b r n f todo cnt) : w.rangeLeft b r = cnt := by obtain ⟨D, left, h1, _⟩ := h; exact h1.left_eq
theorem MapGo.ne (h : MapGo K mk w b r n f todo cnt) : r ≠ b := by obtain ⟨D, left, h1, _⟩ := h; exact h1.ne
theorem MapGo.lt (h : MapGo K mk w b r n f todo cnt) : r < w.heap.size := by obtain ⟨D, left, h1, _⟩ := h; exact h1.lt
theorem MapGo.kept {row : Option Nat} (h : MapGo K mk w b r n f todo cnt) (hg : w.grownBy w' row) (h1 : some b ≠ row) (h2 : some r ≠ row) : MapGo K mk w' b r n f todo cnt := by
  obtain ⟨D, left, h3, h4⟩ := h
  exact ⟨D, left, h3.kept hg h1 h2, h4⟩
theorem MapGo.later (h : MapGo K mk w b r n f todo cnt) (hb : Below w.heap.size w w') : MapGo K mk w' b r n f todo cnt :=
  h.kept (row := none) ⟨hb.os, hb.tape, hb.output, hb.size, fun k hk _ => hb.block k hk⟩ (by simp) (by simp)
theorem MapGo.notBox {cs : Array Value} {t : TypeId} (h : MapGo K mk w b r n f todo cnt) {g : Nat} (hb : Box w g cs t) : r ≠ g := by
  obtain ⟨D, left, ⟨es, clock, _, _, _, _, _, _, _, e, _⟩, _⟩ := h
  rintro rfl
  unfold Box at hb
  rw [e] at hb
  cases hb

/-- 'range m', at the operation. -/
theorem wpList_range_is {ops : Array Oper} {rest : List Oper} {o : Oper} {a : Act} {Q : Exit → Act → World → Prop} (hg : o.guard = none) (m : Operand) (t : TypeId) (hop : o.op = Op.range t m)
    (K : KeyE P κ) (mk : β → Value) (e : TypeId) (ht : P.underlying t = some (.map K.ty e)) (b n : Nat) (f : κ → Option β) (hm : a.eval m = .map (some b)) (h : MapIs K mk w b n f)
    (hK : ∀ w' cnt, cnt ≤ n → MapGo K mk w' b w.heap.size n f (fun x => (f x).isSome) cnt → w.grownBy w' none → w'.heap.size = w.heap.size + 1 → wpList P ops Q rest (a.put o.dst (.pointer (some ⟨w.heap.size, 0, none⟩))) w') :
    wpList P ops Q (o :: rest) a w := by
  obtain ⟨D, h1, h2⟩ := h
  refine wpList_range_own w hg m t hop K.ty e K.law ht (shp mk) b n D hm h1 fun w' r1 r2 r3 => hK w' _ h1.size_le ⟨D, _, r1, h2, fun x hx => ?_⟩ r2 r3
  rcases h2 x hx with ⟨e1, e2⟩ | ⟨c, e1, e2, _⟩
  · show _ = (f x).isSome
    rw [e1, e2]; rfl
  · show _ = (f x).isSome
    rw [e1, e2]; rfl

variable [DecidableEq κ]

theorem Looks.put {D : DataW β} (h : Looks K D f) (hD : Maps.IsMap D) {x : κ} (hx : K.ok x) (c : β) : Looks K (D.put (K.lit x) (.held c)) (fun y => if y = x then some c else f y) := by
  intro y hy
  by_cases e : y = x
  · subst e
    refine .inr ⟨c, by simp, Maps.has_put_same hD (K.isKey hy) _, fun z => Maps.atKey_put_same hD (K.isKey hy) _ z⟩
  · have hne : K.lit y ≠ K.lit x := fun e2 => e (K.lit_inj hy hx e2)
    rcases h y hy with ⟨h1, h2⟩ | ⟨c', h1, h2, h3⟩
    · exact .inl ⟨by simp [e, h1], by rw [Maps.has_put_other hne]; exact h2⟩
    · exact .inr ⟨c', by simp [e, h1], by rw [Maps.has_put_other hne]; exact h2, fun z => by rw [Maps.atKey_put_other hne]; exact h3 z⟩

theorem Looks.del {D : DataW β} (h : Looks K D f) {x : κ} (hx : K.ok x) : Looks K (D.del (K.lit x)) (fun y => if y = x then none else f y) := by
  intro y hy
  by_cases e : y = x
  · subst e
    exact .inl ⟨by simp, Maps.has_del_same⟩
  · have hne : K.lit y ≠ K.lit x := fun e2 => e (K.lit_inj hy hx e2)
    rcases h y hy with ⟨h1, h2⟩ | ⟨c', h1, h2, h3⟩
    · exact .inl ⟨by simp [e, h1], by rw [Maps.has_del_other hne]; exact h2⟩
    · exact .inr ⟨c', by simp [e, h1], by rw [Maps.has_del_other hne]; exact h2, fun z => by rw [Maps.atKey_del_other hne]; exact h3 z⟩

/-- A store. -/
theorem MapIs.put {t e : TypeId} (h : MapIs K mk w b n f) (hi : ∀ x y, mk x = mk y → x = y) (ht : P.underlying t = some (.map K.ty e)) (hn : n < maxLen) {x : κ} (hx : K.ok x) (c : β) :
    ∃ w', (Instr.mapUpdate t (.map (some b)) (K.val x) (mk c)).run P w = .ok () w' ∧ MapIs K mk w' b (n + 1) (fun y => if y = x then some c else f y) ∧ w.grownBy w' (some b) ∧ w'.heap.size = w.heap.size := by
  obtain ⟨D, h1, h2⟩ := h
  obtain ⟨w', r1, r2, r3⟩ := h1.store K.law ht hn (K.key x hx) (shp_mk hi c)
  refine ⟨w', r1, ⟨_, r2, h2.put h1.isMap hx c⟩, r3.grown, ?_⟩
  obtain ⟨_, _, _, _, _, rfl⟩ := r3
  simp [ChangeMaps.setBlock]

theorem MapIs.del {t e : TypeId} (h : MapIs K mk w b n f) (ht : P.underlying t = some (.map K.ty e)) {x : κ} (hx : K.ok x) (ty : TypeId) :
    ∃ w', (Builtin.delete_ #[t, K.ty] ty #[.map (some b), K.val x]).run P w = .ok (.tuple #[]) w' ∧ MapIs K mk w' b n (fun y => if y = x then none else f y) ∧ w.grownBy w' (some b) ∧ w'.heap.size = w.heap.size := by
  obtain ⟨D, h1, h2⟩ := h
  obtain ⟨w', r1, r2, r3⟩ := h1.drop K.law ht (K.key x hx) ty
  refine ⟨w', r1, ⟨_, r2, h2.del hx⟩, r3.grown, ?_⟩
  obtain ⟨_, _, _, _, _, rfl⟩ := r3
  simp [ChangeMaps.setBlock]

/-- A store, at the operation. -/
theorem wpList_put {ops : Array Oper} {rest : List Oper} {o : Oper} {a : Act} {Q : Exit → Act → World → Prop} (hg : o.guard = none) (m x v : Operand) (t : TypeId) (hop : o.op = Op.mapUpdate t m x v)
    (K : KeyE P κ) (mk : β → Value) (hi : ∀ x y, mk x = mk y → x = y) (e : TypeId) (ht : P.underlying t = some (.map K.ty e)) (b n : Nat) (f : κ → Option β)
    (hm : a.eval m = .map (some b)) (h : MapIs K mk w b n f) (hn : n < maxLen) (y : κ) (c : β) (hx : a.eval x = K.val y) (hv : a.eval v = mk c) (hok : K.ok y)
    (hK : ∀ w', MapIs K mk w' b (n + 1) (fun z => if z = y then some c else f z) → w.grownBy w' (some b) → w'.heap.size = w.heap.size → wpList P ops Q rest (a.put o.dst undef) w') :
    wpList P ops Q (o :: rest) a w := by
  refine wpList_plain hg fun K' hK' => ?_
  obtain ⟨w', hrun, r1, r2, r3⟩ := h.put hi ht hn hok c
  unfold Oper.wp
  simp [execOp, hop, hm, hx, hv, hrun, Result.andThen]
  exact hK' _ _ (hK w' r1 r2 r3)

/-- A delete, at the operation. -/
theorem wpList_del {ops : Array Oper} {rest : List Oper} {o : Oper} {a : Act} {Q : Exit → Act → World → Prop} (hg : o.guard = none) (m x : Operand) (t : TypeId) (K : KeyE P κ) (hop : o.op = Op.call { callee := Callee.builtin Builtin.delete, args := #[m, x], argTypes := #[t, K.ty] })
    (mk : β → Value) (e : TypeId) (ht : P.underlying t = some (.map K.ty e)) (b n : Nat) (f : κ → Option β)
    (hm : a.eval m = .map (some b)) (h : MapIs K mk w b n f) (y : κ) (hx : a.eval x = K.val y) (hok : K.ok y)
    (hK : ∀ w', MapIs K mk w' b n (fun z => if z = y then none else f z) → w.grownBy w' (some b) → w'.heap.size = w.heap.size → wpList P ops Q rest (a.put o.dst (.tuple #[])) w') :
    wpList P ops Q (o :: rest) a w := by
  refine wpList_plain hg fun K' hK' => ?_
  obtain ⟨w', hrun, r1, r2, r3⟩ := h.del ht hok o.type
  unfold Oper.wp
  simp [execOp, hop, resolve, invoke, builtin, hm, hx, hrun, Result.andThen]
  exact hK' _ _ (hK w' r1 r2 r3)

/-- 'next', at the operation. -/
theorem wpList_next_is {ops : Array Oper} {rest : List Oper} {o : Oper} {a : Act} {Q : Exit → Act → World → Prop} (hg : o.guard = none) (it : Operand) (hop : o.op = Op.next it false)
    (K : KeyE P κ) (mk : β → Value) (hi : ∀ x y, mk x = mk y → x = y) (b r n : Nat) (f : κ → Option β) (todo : κ → Bool) (cnt : Nat) (hit : a.eval it = .pointer (some ⟨r, 0, none⟩)) (h : MapGo K mk w b r n f todo cnt)
    (hDone : (∀ x, K.ok x → todo x = false) → wpList P ops Q rest (a.put o.dst (.tuple #[.bool false])) w)
    (hMore : ∀ (x : κ) (c : β) (w' : World) (cnt' : Nat), K.ok x → todo x = true → f x = some c → MapGo K mk w' b r n f (fun y => todo y && !decide (y = x)) cnt' → cnt' < cnt → w.grownBy w' (some r) → w'.heap.size = w.heap.size →
      (Instr.entry (.pointer (some ⟨r, 0, none⟩))).run P w' = .ok (.tuple #[K.val x, mk c]) w' → wpList P ops Q rest (a.put o.dst (.tuple #[.bool true, K.val x, mk c])) w') :
    wpList P ops Q (o :: rest) a w := by
  obtain ⟨D, left, h1, h2, h3⟩ := h
  refine wpList_next_ranges (α := κ) (β := β) w hg it hop K.ty K.law (shp mk) K.val mk (fun key kl hk => ?_) (fun v y hv => ?_) b r n D left cnt hit h1 (fun _ hl => hDone fun x hx => by rw [← h3 x hx]; exact hl _) ?_
  · obtain ⟨x, _, rfl⟩ := K.inv key kl hk
    exact ⟨x, rfl⟩
  · obtain ⟨c, rfl, _⟩ := shp_inv hv
    exact ⟨c, rfl⟩
  · intro x c kl y w' cnt' hk hl hv hat hrg hlt hgr hsz hen
    obtain ⟨x', hx', e⟩ := K.inv _ _ hk
    have e' := K.inj _ _ e
    subst e'
    have ek : kl = K.lit x := Option.some.inj (hk.symm.trans (K.key x hx'))
    subst ek
    have hf : f x = some c := by
      have hh : Maps.has D (K.lit x) = true := Maps.has_true_of_atKey hat
      rcases h2 x hx' with ⟨_, e3⟩ | ⟨c', e3, _, e4⟩
      · rw [hh] at e3; cases e3
      · obtain ⟨c2, e5, e6⟩ := shp_inv hv
        have e7 : y.1 = .held c' := (hat .nil).symm.trans (e4 .nil)
        rw [e6] at e7
        cases e7
        rw [e3, hi _ _ e5]
    refine hMore x c w' cnt' hx' (by rw [← h3 x hx']; exact hl) hf ⟨D, _, hrg, h2, fun y' hy' => ?_⟩ hlt hgr hsz hen
    by_cases e3 : y' = x
    · subst e3
      simp [WideAt.sameKey_self (K.isKey hy')]
    · have : (K.lit y').sameKey (K.lit x) = false := Maps.sameKey_ne (fun e4 => e3 (K.lit_inj hy' hx' e4))
      rw [this, h3 y' hy']
      simp [e3]
end

end Go.Proofs.Ytjfilicddnhniab

/- Structs as keys of maps: two texts; three numbers. -/
namespace Go.Proofs.Ytjfilicddnhniab
open Go.RowKit
open Go.Maps (Keyed)

/-- What one cell reads as. -/
def strL (v : Value) : Option (List Lit) := match v with | .string a => if a.size ≤ maxLen then some [.string a.data.toList] else none | _ => none
def intL (v : Value) : Option (List Lit) := match v with | .int q n => if q = .i64 ∧ (Lit.int .i64 n).wf = true then some [.int .i64 n] else none | _ => none
theorem strL_inv {v : Value} {p : List Lit} (h : strL v = some p) : ∃ a, v = .string a ∧ a.size ≤ maxLen := by
  unfold strL at h
  cases v <;> simp at h
  exact ⟨_, rfl, h.1⟩
theorem intL_inv {v : Value} {p : List Lit} (h : intL v = some p) : ∃ n, v = .int .i64 n ∧ (Lit.int .i64 n).wf = true := by
  unfold intL at h
  cases v <;> simp at h
  obtain ⟨⟨rfl, h2⟩, _⟩ := h
  exact ⟨_, rfl, h2⟩
theorem strL_mk {a : ByteArray} (h : a.size ≤ maxLen) : strL (.string a) = some [.string a.data.toList] := if_pos h
theorem intL_mk {n : Int} (h : (Lit.int .i64 n).wf = true) : intL (.int .i64 n) = some [.int .i64 n] := if_pos ⟨rfl, h⟩

theorem lit_str (v : Value) (d : Nat) : Try.prog.keyLits (d + 1) 9 [v] = strL v := by
  unfold Program.keyLits
  rw [Try.underlying9]
  cases v <;> rfl
theorem lit_int (v : Value) (d : Nat) : Try.prog.keyLits (d + 1) 3 [v] = intL v := by
  unfold Program.keyLits
  rw [Try.underlying3]
  cases v <;> rfl
theorem many_types : ∃ d, Try.prog.types.size + 1 = d + 2 := ⟨Try.prog.types.size - 1, by have h : (0 : Nat) < Try.prog.types.size := of_decide_eq_true (by kernel_rfl); omega⟩

theorem nm_lits (x y : Value) (d : Nat) : Try.prog.keyLits (d + 2) 68 [x, y] = (strL x).bind fun p => (strL y).map fun q => p ++ q := by
  have hc : Try.prog.cellsOf 68 = 2 := by kernel_rfl
  have hs : Try.prog.cellsOf 9 = 1 := by kernel_rfl
  unfold Program.keyLits
  rw [Try.underlying68]
  simp only [List.length_cons, List.length_nil, hc]
  simp [hs, lit_str]
  cases strL x <;> cases strL y <;> simp
theorem nm_formed (x y : Value) : (Value.agg #[x, y]).formed Try.prog 68 = true := by
  have hc : Try.prog.cellsOf 68 = 2 := by kernel_rfl
  simp [Value.formed, Try.underlying68, hc]
set_option maxRecDepth 100000 in
def nmK : KeyE Try.prog (ByteArray × ByteArray) where
  ty := 68
  law := Keyed.of_law (deep_law_laid (show laidOutB Try.prog = true by kernel_rfl) (m := 2) (by omega) (of_decide_eq_true (by kernel_rfl)) (by kernel_rfl) (by rw [Try.underlying68]))
  val := fun x => .agg #[.string x.1, .string x.2]
  lit := fun x => .string (keyBytes [.string x.1.data.toList, .string x.2.data.toList])
  ok := fun x => x.1.size ≤ maxLen ∧ x.2.size ≤ maxLen
  key := fun x hx => by
    obtain ⟨d, hd⟩ := many_types
    unfold keyOf
    rw [Try.underlying68]
    have h1 : Try.prog.keyType 68 = true := by kernel_rfl
    simp only [h1, nm_formed, Bool.and_self, if_true, hd]
    show Option.map _ (Try.prog.keyLits (d + 2) _ [.string x.1, .string x.2]) = _
    rw [nm_lits, strL_mk hx.1, strL_mk hx.2]
    rfl
  inv := fun v l hv => by
    obtain ⟨d, hd⟩ := many_types
    have hc : Try.prog.cellsOf 68 = 2 := by kernel_rfl
    unfold keyOf at hv
    rw [Try.underlying68] at hv
    simp only [hd] at hv
    split at hv
    · rename_i hf
      have hf2 := (Bool.and_eq_true _ _ ▸ hf).2
      cases v with
      | agg cs =>
        simp [Value.formed, Try.underlying68, hc] at hf2
        obtain ⟨cl⟩ := cs
        have h2 : cl.length = 2 := hf2
        match cl, h2 with
        | [x, y], _ =>
          change Option.map _ (Try.prog.keyLits (d + 2) _ [x, y]) = _ at hv
          rw [nm_lits] at hv
          cases h3 : strL x with
          | none => rw [h3] at hv; cases hv
          | some p =>
            cases h4 : strL y with
            | none => rw [h3, h4] at hv; cases hv
            | some q =>
              obtain ⟨a, rfl, ha⟩ := strL_inv h3
              obtain ⟨b, rfl, hb⟩ := strL_inv h4
              exact ⟨(a, b), ⟨ha, hb⟩, rfl⟩
      | _ => simp [Value.formed, Try.underlying68] at hf2
    · cases hv
  inj := fun x y e => by
    obtain ⟨a, b⟩ := x
    obtain ⟨c, d⟩ := y
    simp at e
    obtain ⟨rfl, rfl⟩ := e
    rfl

theorem sj_lits (x y z : Value) (d : Nat) : Try.prog.keyLits (d + 2) 88 [x, y, z] = (intL x).bind fun p => (intL y).bind fun q => (intL z).map fun r => p ++ (q ++ r) := by
  have hc : Try.prog.cellsOf 88 = 3 := by kernel_rfl
  have hs : Try.prog.cellsOf 3 = 1 := by kernel_rfl
  unfold Program.keyLits
  rw [Try.underlying88]
  simp only [List.length_cons, List.length_nil, hc]
  simp [hs, lit_int]
  cases intL x <;> cases intL y <;> cases intL z <;> simp
theorem sj_formed (x y z : Value) : (Value.agg #[x, y, z]).formed Try.prog 88 = true := by
  have hc : Try.prog.cellsOf 88 = 3 := by kernel_rfl
  simp [Value.formed, Try.underlying88, hc]
set_option maxRecDepth 100000 in
def sjK : KeyE Try.prog (Int × Int × Int) where
  ty := 88
  law := Keyed.of_law (deep_law_laid (show laidOutB Try.prog = true by kernel_rfl) (m := 2) (by omega) (of_decide_eq_true (by kernel_rfl)) (by kernel_rfl) (by rw [Try.underlying88]))
  val := fun x => .agg #[.int .i64 x.1, .int .i64 x.2.1, .int .i64 x.2.2]
  lit := fun x => .string (keyBytes [.int .i64 x.1, .int .i64 x.2.1, .int .i64 x.2.2])
  ok := fun x => (Lit.int .i64 x.1).wf = true ∧ (Lit.int .i64 x.2.1).wf = true ∧ (Lit.int .i64 x.2.2).wf = true
  key := fun x hx => by
    obtain ⟨d, hd⟩ := many_types
    unfold keyOf
    rw [Try.underlying88]
    have h1 : Try.prog.keyType 88 = true := by kernel_rfl
    simp only [h1, sj_formed, Bool.and_self, if_true, hd]
    show Option.map _ (Try.prog.keyLits (d + 2) _ [.int .i64 x.1, .int .i64 x.2.1, .int .i64 x.2.2]) = _
    rw [sj_lits, intL_mk hx.1, intL_mk hx.2.1, intL_mk hx.2.2]
    rfl
  inv := fun v l hv => by
    obtain ⟨d, hd⟩ := many_types
    have hc : Try.prog.cellsOf 88 = 3 := by kernel_rfl
    unfold keyOf at hv
    rw [Try.underlying88] at hv
    simp only [hd] at hv
    split at hv
    · rename_i hf
      have hf2 := (Bool.and_eq_true _ _ ▸ hf).2
      cases v with
      | agg cs =>
        simp [Value.formed, Try.underlying88, hc] at hf2
        obtain ⟨cl⟩ := cs
        have h2 : cl.length = 3 := hf2
        match cl, h2 with
        | [x, y, z], _ =>
          change Option.map _ (Try.prog.keyLits (d + 2) _ [x, y, z]) = _ at hv
          rw [sj_lits] at hv
          cases h3 : intL x with
          | none => rw [h3] at hv; cases hv
          | some p =>
            cases h4 : intL y with
            | none => rw [h3, h4] at hv; cases hv
            | some q =>
              cases h5 : intL z with
              | none => rw [h3, h4, h5] at hv; cases hv
              | some r =>
                obtain ⟨a, rfl, ha⟩ := intL_inv h3
                obtain ⟨b, rfl, hb⟩ := intL_inv h4
                obtain ⟨c, rfl, hc⟩ := intL_inv h5
                exact ⟨(a, b, c), ⟨ha, hb, hc⟩, rfl⟩
      | _ => simp [Value.formed, Try.underlying88] at hf2
    · cases hv
  inj := fun x y e => by
    obtain ⟨a, b, c⟩ := x
    obtain ⟨p, q, r⟩ := y
    simp at e
    obtain ⟨rfl, rfl, rfl⟩ := e
    rfl

end Go.Proofs.Ytjfilicddnhniab

/- StateOk of the program. -/
namespace Go.Proofs.Ytjfilicddnhniab
open Go.RowKit

theorem someB' (p : Prop) : ∃ F : Bool, F = true ↔ p := ⟨@decide p (Classical.propDecidable _), by simp⟩
noncomputable def bkB (b : Bx) : Bool := @decide (bxOk b ∧ ∀ k, MlAt b k) (Classical.propDecidable _)
theorem bkB_yes {b : Bx} (h : bxOk b ∧ ∀ k, MlAt b k) : bkB b = true := @decide_eq_true _ (Classical.propDecidable _) h
theorem bkB_no {b : Bx} (h : ¬ (bxOk b ∧ ∀ k, MlAt b k)) : bkB b = false := @decide_eq_false _ (Classical.propDecidable _) h
theorem bkB_of {b : Bx} (h : bkB b = true) : bxOk b ∧ ∀ k, MlAt b k := @of_decide_eq_true _ (Classical.propDecidable _) h

/-- The number of the one before. -/
def LastU (b : Bx) (k : Nat) (L : Int) : Prop := (k = 0 → L = 0) ∧ ∀ q, 0 < k → b.mails[k - 1]? = some q → L = q.uid
theorem LastU.next {b : Bx} {k : Nat} {m : Ml} (h : b.mails[k]? = some m) : LastU b (k + 1) m.uid := ⟨fun e => by omega, fun q _ hq => by
  have : b.mails[k]? = some q := hq
  rw [h] at this
  cases this
  rfl⟩
theorem ml_iff {b : Bx} {k : Nat} {L : Int} {m : Ml} (hL : LastU b k L) (hM : ∀ q, q < k → MlAt b q) (h : b.mails[k]? = some m) : MlAt b k ↔ (¬ m.uid ≤ L ∧ ¬ b.next ≤ m.uid ∧ (0 ≤ m.flags ∧ m.flags ≤ 7) ∧ m.text.size ≤ 100) := by
  have hpos : 0 ≤ L := by
    rcases Nat.eq_zero_or_pos k with e | e
    · rw [hL.1 e]; exact Int.le_refl _
    · obtain ⟨q, hq⟩ : ∃ q, b.mails[k - 1]? = some q := ⟨_, List.getElem?_eq_getElem (by have := (List.getElem?_eq_some_iff.1 h).1; omega)⟩
      have h1 := (hM (k - 1) (by omega) q hq).1.1.1
      rw [hL.2 q e hq]
      omega
  constructor
  · intro c
    obtain ⟨⟨h1, h2, h3⟩, h4⟩ := c m h
    refine ⟨fun e => ?_, by omega, h2, h3⟩
    rcases Nat.eq_zero_or_pos k with e0 | e0
    · rw [hL.1 e0] at e; omega
    · obtain ⟨q, hq⟩ : ∃ q, b.mails[k - 1]? = some q := ⟨_, List.getElem?_eq_getElem (by have := (List.getElem?_eq_some_iff.1 h).1; omega)⟩
      have := h4 q e0 hq
      rw [hL.2 q e0 hq] at e
      omega
  · rintro ⟨h1, h2, h3, h4⟩
    exact MlAt.of h ⟨⟨by omega, by omega⟩, h3, h4⟩ (fun q h0 hq => by rw [← hL.2 q h0 hq]; omega)

theorem word_i {s : ByteArray} {b : Bool} (h : decide (wdOk s) = b) (w : World) : Calls Try.prog 65 #[.string s] w fun e w' => e = .returned (.bool b) ∧ Below w.heap.size w w' :=
  (implWordOk_any s w).mono fun e w' h' => ⟨by rw [h'.1, h], h'.2⟩
theorem flags_i {n : Int} {b : Bool} (h : decide (0 ≤ n ∧ n ≤ 7) = b) (w : World) : Calls Try.prog 66 #[.int .i64 n] w fun e w' => e = .returned (.bool b) ∧ w = w' :=
  (flagsOk_any n w).mono fun e w' h' => ⟨by rw [h'.1, h], h'.2⟩

set_option maxRecDepth 100000 in
set_option maxHeartbeats 8000000 in
theorem boxOk_any (b : Bx) (a : Option Addr) (n c : Nat) (w : World) (h : Rows' mlE w (.slice a n c) b.mails) (hl : n ≤ 1048576) :
    Calls Try.prog 43 #[.agg #[.int .i64 b.valid, .string b.user, .string b.name, .int .i64 b.next, .slice a n c]] w fun e w' => e = .returned (.bool (bkB b)) ∧ Below w.heap.size w w' := by
  obtain ⟨rml, hrm⟩ := h.mails
  have HRM := Lib.hid hrm
  have HRL := Lib.hid rml
  clear h hrm rml
  have X1 := Box.new w #[.int .i64 b.valid, .string b.user, .string b.name, .int .i64 b.next, .slice a n c] 57
  have b1 := belNew w (.cells #[.int .i64 b.valid, .string b.user, .string b.name, .int .i64 b.next, .slice a n c] 57)
  obtain ⟨bu, hbu⟩ : ∃ bu, decide (wdOk b.user) = bu := ⟨_, rfl⟩
  obtain ⟨bn, hbn⟩ : ∃ bn, decide (wdOk b.name) = bn := ⟨_, rfl⟩
  have HWU := Lib.hid (fun x => word_i hbu x)
  have HWN := Lib.hid (fun x => word_i hbn x)
  have HBU := Lib.hid hbu
  have HBN := Lib.hid hbn
  clear hbu hbn
  obtain ⟨T, hT⟩ : ∃ T, bkB b = T := ⟨_, rfl⟩
  have HT := Lib.hid hT
  rw [hT]
  clear hT
  obtain ⟨bV, bU, bN, bX, bM⟩ := b
  simp only at HRM HRL X1 b1 HWU HWN HBU HBN ⊢
  go_enter Try.func43, Try.ntmps43
  go_upto_region 1 with fail
  generalize w.alloc (.cells #[.int .i64 bV, .string bU, .string bN, .int .i64 bX, .slice a n c] 57) = w1 at X1 b1 ⊢
  have H1 : Hid (∀ x, Below w1.heap.size w1 x → (x.cell? ⟨w.heap.size, 0, none⟩ = some (.int .i64 bV) ∧ x.cell? ⟨w.heap.size, 1, none⟩ = some (.string bU) ∧ x.cell? ⟨w.heap.size, 2, none⟩ = some (.string bN) ∧ x.cell? ⟨w.heap.size, 3, none⟩ = some (.int .i64 bX) ∧ x.cell? ⟨w.heap.size, 4, none⟩ = some (.slice a n c)) ∧ Below w.heap.size w x) := fun x hx => ⟨(X1.later hx).five, b1.trans (hx.mono b1.size)⟩
  obtain ⟨c0, c1, c2, c3, c4⟩ := X1.five
  by_cases hv : 1 ≤ bV ∧ bV ≤ 9999
  rotate_left
  · have HE : Hid (T = false) := by rw [← HT.out]; exact bkB_no (fun c => hv c.1.1)
    go_wp2_with (first | (go_at_call 63; refine (validOk_no _ _ (by omega)).mono ?_; rintro e w5 ⟨rfl, rfl⟩))
    go_ret
    exact ⟨by rw [HE.out]; rfl, b1⟩
  by_cases hx : 1 ≤ bX ∧ bX ≤ 10000
  rotate_left
  · have HE : Hid (T = false) := by rw [← HT.out]; exact bkB_no (fun c => hx c.1.2.2.2)
    go_wp2_with (first | (go_at_call 63; refine (validOk_yes _ _ (by omega) (by omega)).mono ?_; rintro e w5 ⟨rfl, rfl⟩) | (go_at_call 64; refine (nextOk_no _ _ (by omega)).mono ?_; rintro e w5 ⟨rfl, rfl⟩))
    go_ret
    exact ⟨by rw [HE.out]; rfl, b1⟩
  cases bu with
  | false =>
    have HE : Hid (T = false) := by rw [← HT.out]; exact bkB_no (fun c => by have h1 := c.1.2.1; have h2 := HBU.out; rw [decide_eq_true h1] at h2; cases h2)
    go_wp2_with (first | (go_at_call 63; refine (validOk_yes _ _ (by omega) (by omega)).mono ?_; rintro e w5 ⟨rfl, rfl⟩) | (go_at_call 64; refine (nextOk_yes _ _ (by omega) (by omega)).mono ?_; rintro e w5 ⟨rfl, rfl⟩) | (go_at_call 65; with_reducible refine (HWU.out _).mono ?_; rintro e w5 ⟨rfl, k5⟩; obtain ⟨d0, d1, d2, d3, d4⟩ := (H1.out _ k5).1) | (go_at_call 65; with_reducible refine (HWN.out _).mono ?_; rintro e w6 ⟨rfl, k6'⟩; have k6 := k5.trans (k6'.mono k5.size); obtain ⟨e0, e1, e2, e3, e4⟩ := (H1.out _ k6).1))
    go_ret
    exact ⟨by rw [HE.out]; rfl, (H1.out _ k5).2⟩
  | true =>
    cases bn with
    | false =>
      have HE : Hid (T = false) := by rw [← HT.out]; exact bkB_no (fun c => by have h1 := c.1.2.2.1; have h2 := HBN.out; rw [decide_eq_true h1] at h2; cases h2)
      go_wp2_with (first | (go_at_call 63; refine (validOk_yes _ _ (by omega) (by omega)).mono ?_; rintro e w5 ⟨rfl, rfl⟩) | (go_at_call 64; refine (nextOk_yes _ _ (by omega) (by omega)).mono ?_; rintro e w5 ⟨rfl, rfl⟩) | (go_at_call 65; with_reducible refine (HWU.out _).mono ?_; rintro e w5 ⟨rfl, k5⟩; obtain ⟨d0, d1, d2, d3, d4⟩ := (H1.out _ k5).1) | (go_at_call 65; with_reducible refine (HWN.out _).mono ?_; rintro e w6 ⟨rfl, k6'⟩; have k6 := k5.trans (k6'.mono k5.size); obtain ⟨e0, e1, e2, e3, e4⟩ := (H1.out _ k6).1))
      go_ret
      exact ⟨by rw [HE.out]; rfl, (H1.out _ k6).2⟩
    | true =>
      have HOK : Hid (bxOk ⟨bV, bU, bN, bX, bM⟩) := ⟨hv, of_decide_eq_true HBU.out, of_decide_eq_true HBN.out, hx⟩
      go_wp2_with (first | (go_at_call 63; refine (validOk_yes _ _ (by omega) (by omega)).mono ?_; rintro e w5 ⟨rfl, rfl⟩) | (go_at_call 64; refine (nextOk_yes _ _ (by omega) (by omega)).mono ?_; rintro e w5 ⟨rfl, rfl⟩) | (go_at_call 65; with_reducible refine (HWU.out _).mono ?_; rintro e w5 ⟨rfl, k5⟩; obtain ⟨d0, d1, d2, d3, d4⟩ := (H1.out _ k5).1) | (go_at_call 65; with_reducible refine (HWN.out _).mono ?_; rintro e w6 ⟨rfl, k6'⟩; have k6 := k5.trans (k6'.mono k5.size); obtain ⟨e0, e1, e2, e3, e4⟩ := (H1.out _ k6).1))
      clear HWU HWN HBU HBN X1 b1 c0 c1 c2 c3 c4 d0 d1 d2 d3 d4 e0 e1 e2 e3 e4 k5 k6'
      go_loopw [3, 31] (fun lv iv wr => ∃ (k : Nat) (L : Int), k ≤ n ∧ iv = .int .i64 (k : Int) ∧ lv = .int .i64 L ∧ LastU ⟨bV, bU, bN, bX, bM⟩ k L ∧ (∀ q, q < k → MlAt ⟨bV, bU, bN, bX, bM⟩ q) ∧ Below w1.heap.size w1 wr) (fun _ iv _ => n - (intOf iv).toNat)
      case atStart => exact ⟨0, 0, by omega, rfl, rfl, ⟨fun _ => rfl, fun q h => by omega⟩, fun q hq => by omega, k6⟩
      case round =>
        clear k6
        obtain ⟨k, L, hk, rfl, rfl, hL, hM, bq⟩ := hrel
        obtain ⟨⟨_, _, _, c3, _⟩, bW⟩ := H1.out _ bq
        by_cases hlk : k < n
        · obtain ⟨m, hgm⟩ : ∃ m, bM[k]? = some m := ⟨_, List.getElem?_eq_getElem (by rw [← HRL.out]; exact hlk)⟩
          obtain ⟨gm, om, rfl, m0, m1, m2⟩ := HRM.out _ bW k _ hgm
          have HI := Lib.hid (ml_iff (b := ⟨bV, bU, bN, bX, bM⟩) hL hM hgm)
          have HLN := Lib.hid (LastU.next (b := ⟨bV, bU, bN, bX, bM⟩) hgm)
          have HM := Lib.hid hM
          clear hgm hL hM
          obtain ⟨mU, mF, mT⟩ := m
          simp only at m0 m1 m2 HI HLN
          have hk0 : (0 : Int) ≤ (k : Int) := by omega
          have hk1 : (k : Int) < (n : Int) := by omega
          have XM := Box.new wr #[.int .i64 mU, .int .i64 mF, .string mT] 59
          have k11 := belNew wr (.cells #[.int .i64 mU, .int .i64 mF, .string mT] 59)
          have b11 := bq.trans (k11.mono bq.size)
          clear bq k11 bW
          go_upto_region 7 with fail
          clear m0 m1 m2 c3
          generalize wr.alloc (.cells #[.int .i64 mU, .int .i64 mF, .string mT] 59) = w11 at XM b11 ⊢
          generalize wr.heap.size = g11 at XM ⊢
          obtain ⟨⟨_, _, _, c3, _⟩, bE⟩ := H1.out _ b11
          obtain ⟨x0, x1, x2, _⟩ := XM.three
          clear XM
          obtain ⟨fl, hfl⟩ : ∃ fl, decide (0 ≤ mF ∧ mF ≤ 7) = fl := ⟨_, rfl⟩
          have HFL := Lib.hid (fun x => flags_i hfl x)
          have HF2 := Lib.hid hfl
          clear hfl
          by_cases h1 : mU ≤ L
          · have HE : Hid (T = false) := by rw [← HT.out]; exact bkB_no (fun c => (HI.out.1 (c.2 k)).1 h1)
            clear HI HLN HM HF2
            go_wp2_with fail
            go_ret
            exact ⟨by rw [HE.out]; rfl, bE⟩
          by_cases h2 : bX ≤ mU
          · have HE : Hid (T = false) := by rw [← HT.out]; exact bkB_no (fun c => (HI.out.1 (c.2 k)).2.1 h2)
            clear HI HLN HM HF2
            go_wp2_with fail
            go_ret
            exact ⟨by rw [HE.out]; rfl, bE⟩
          cases fl with
          | false =>
            have HE : Hid (T = false) := by rw [← HT.out]; exact bkB_no (fun c => of_decide_eq_false HF2.out (HI.out.1 (c.2 k)).2.2.1)
            clear HI HLN HM HF2
            go_wp2_with (go_at_call 66; refine (HFL.out _).mono ?_; rintro e w5 ⟨rfl, rfl⟩)
            go_ret
            exact ⟨by rw [HE.out]; rfl, bE⟩
          | true =>
            by_cases h4 : (100 : Int) < (mT.size : Int)
            · have HE : Hid (T = false) := by rw [← HT.out]; exact bkB_no (fun c => by have := (HI.out.1 (c.2 k)).2.2.2; omega)
              clear HI HLN HM HF2
              go_wp2_with (go_at_call 66; refine (HFL.out _).mono ?_; rintro e w5 ⟨rfl, rfl⟩)
              go_ret
              exact ⟨by rw [HE.out]; rfl, bE⟩
            · have HS : Hid (∀ q, q < k + 1 → MlAt ⟨bV, bU, bN, bX, bM⟩ q) := fun q hq => by
                rcases Nat.lt_succ_iff_lt_or_eq.1 hq with h | rfl
                · exact HM.out q h
                · exact HI.out.2 ⟨h1, h2, of_decide_eq_true HF2.out, by omega⟩
              clear HI HM HF2
              go_wp2_with (go_at_call 66; refine (HFL.out _).mono ?_; rintro e w5 ⟨rfl, rfl⟩)
              exact ⟨⟨k + 1, mU, by omega, by simp, rfl, HLN.out, HS.out, b11⟩, by first | omega | (simp [intOf]; omega)⟩
        · have HE : Hid (T = true) := by
            rw [← HT.out]
            refine bkB_yes ⟨HOK.out, fun q => ?_⟩
            by_cases hq : q < n
            · exact hM q (by omega)
            · intro m hm
              rw [List.getElem?_eq_none (by have := HRL.out; simp only; omega)] at hm
              cases hm
          clear hL hM
          go_wp2
          go_ret
          exact ⟨by rw [HE.out]; rfl, bW⟩

/-- The names that were seen. -/
def seenS (f : ByteArray × ByteArray → Option Int) (y : Bx) : ByteArray × ByteArray → Option Int := fun z => if z = (y.user, y.name) then some y.valid else f z
def seenM (ps : List Bx) : ByteArray × ByteArray → Option Int := ps.foldl seenS (fun _ => none)
theorem seenM_step {ps : List Bx} {k : Nat} {y : Bx} (h : ps[k]? = some y) : seenM (ps.take (k + 1)) = fun z => if z = (y.user, y.name) then some y.valid else seenM (ps.take k) z := by
  unfold seenM
  rw [List.take_add_one, h, List.foldl_append]
  rfl
theorem seen_inv : ∀ (ps : List Bx) (f : ByteArray × ByteArray → Option Int) (z : ByteArray × ByteArray) (c : Int), ps.foldl seenS f z = some c → f z = some c ∨ ∃ y ∈ ps, y.user = z.1 ∧ y.name = z.2
  | [], _, _, _, h => .inl h
  | t :: ps, f, z, c, h => by
    rcases seen_inv ps (seenS f t) z c h with h1 | ⟨y, hy, e⟩
    · unfold seenS at h1
      by_cases ez : z = (t.user, t.name)
      · exact .inr ⟨t, by simp, by rw [ez], by rw [ez]⟩
      · rw [if_neg ez] at h1; exact .inl h1
    · exact .inr ⟨y, List.mem_cons_of_mem _ hy, e⟩
theorem seen_keep : ∀ (ps : List Bx) (f : ByteArray × ByteArray → Option Int) (z : ByteArray × ByteArray), (f z).isSome = true → (ps.foldl seenS f z).isSome = true
  | [], _, _, h => h
  | t :: ps, f, z, h => seen_keep ps (seenS f t) z (by unfold seenS; by_cases ez : z = (t.user, t.name) <;> simp [ez, h])
theorem seen_there : ∀ (ps : List Bx) (f : ByteArray × ByteArray → Option Int) (y : Bx), y ∈ ps → (ps.foldl seenS f (y.user, y.name)).isSome = true
  | t :: ps, f, y, h => by
    rcases List.mem_cons.1 h with rfl | h
    · exact seen_keep ps _ _ (by unfold seenS; simp)
    · exact seen_there ps _ y h
/-- The Valid of the one before. -/
def LastV (ps : List Bx) (k : Nat) (L : Int) : Prop := (k = 0 → L = 0) ∧ ∀ q, 0 < k → ps[k - 1]? = some q → L = q.valid
theorem LastV.next {ps : List Bx} {k : Nat} {m : Bx} (h : ps[k]? = some m) : LastV ps (k + 1) m.valid := ⟨fun e => by omega, fun q _ hq => by
  have : ps[k]? = some q := hq
  rw [h] at this
  cases this
  rfl⟩
def inV' (x : Int) : Value := .int .i64 x
theorem inV'_inj (x y : Int) (h : inV' x = inV' y) : x = y := by unfold inV' at h; simpa using h
theorem zero_int' (w : World) : (zeroValue 3).run Try.prog w = .ok (.int .i64 0) w := by kernel_rfl

set_option maxRecDepth 100000 in
set_option maxHeartbeats 8000000 in
theorem implStateOk_any (ps : List Bx) (va : Value) (w : World) (ha : BRd w va ps) (hla : ps.length ≤ 1048576) (hma : ∀ b ∈ ps, b.mails.length ≤ 1048576 ∧ b.user.size ≤ 1099511627776 ∧ b.name.size ≤ 1099511627776) :
    Calls Try.prog 15 #[.agg #[va]] w fun e w' => e = .returned (.bool (stB ps)) ∧ Below w.heap.size w w' := by
  obtain ⟨ad, cap, rfl, hrowa⟩ := ha.boxes
  have HA := Lib.hid hrowa
  have HMA := Lib.hid hma
  clear ha hrowa hma
  obtain ⟨n, hn⟩ : ∃ n, ps.length = n := ⟨_, rfl⟩
  rw [hn] at hla ⊢
  have HN := Lib.hid hn
  clear hn
  have X1 := (Box.new w #[.slice ad n cap] 29).later (belNew _ (.map #[] 0))
  have e1 : (w.alloc (.cells #[.slice ad n cap] 29)).heap.size = w.heap.size + 1 := by simp
  have M0 := MapIs.made nmK inV' (w.alloc (.cells #[.slice ad n cap] 29))
  rw [e1] at M0
  clear e1
  have b1 : Below w.heap.size w ((w.alloc (.cells #[.slice ad n cap] 29)).alloc (.map #[] 0)) := ((Below.refl _ _).alloc (Nat.le_refl _) _).alloc (by simp) _
  have hmm := @run_makeMap Try.prog
  go_enter Try.func15, Try.ntmps15
  go_upto_region 3 with fail
  clear hmm
  generalize (w.alloc (.cells #[.slice ad n cap] 29)).alloc (.map #[] 0) = w1 at X1 M0 b1 ⊢
  have y1 := X1.cell 0 (.slice ad n cap) rfl
  obtain ⟨gM, hgM⟩ : ∃ gM, w.heap.size + 1 = gM := ⟨_, rfl⟩
  rw [hgM] at M0 ⊢
  have HGM : Hid (w.heap.size ≤ gM) := by show _ ≤ _; omega
  clear hgM X1
  go_wp2
  clear y1
  go_loopw [3, 14] (fun lv iv wr => ∃ (i : Nat) (L : Int), i ≤ n ∧ iv = .int .i64 (i : Int) ∧ lv = .int .i64 L ∧ LastV ps i L ∧ (∀ j, j < i → StAt ps j) ∧ MapIs nmK inV' wr gM i (seenM (ps.take i)) ∧ Below w.heap.size w wr) (fun _ iv _ => n - (intOf iv).toNat)
  case atStart => exact ⟨0, 0, by omega, rfl, rfl, ⟨fun _ => rfl, fun q h => by omega⟩, fun j hj => by omega, M0, b1⟩
  case round =>
    clear M0 b1
    obtain ⟨i, L, hi, rfl, rfl, hL, hup, MM, bW⟩ := hrel
    by_cases hlt : i < n
    · obtain ⟨b, hgb⟩ : ∃ b, ps[i]? = some b := ⟨_, List.getElem?_eq_getElem (by rw [HN.out]; exact hlt)⟩
      obtain ⟨hm1, hu1, hn1⟩ := HMA.out _ (List.mem_of_getElem? hgb)
      obtain ⟨gp, op, am, nm, cm, rfl, p0, p1, p2, p3, p4, rm⟩ := HA.out _ bW i _ hgb
      have hnm := rm.mails.1
      have HBK := Lib.hid (fun x (hx : Below w.heap.size w x) => boxOk_any b am nm cm x (rm.later hx) (by rw [hnm]; exact hm1))
      have HST := Lib.hid (seenM_step hgb)
      have HLN := Lib.hid (LastV.next hgb)
      have HTW : Hid ((seenM (ps.take i) (b.user, b.name)).isSome = true ↔ ∃ (k : Nat) (y : Bx), k < i ∧ ps[k]? = some y ∧ y.user = b.user ∧ y.name = b.name) := by
        constructor
        · intro h
          obtain ⟨c, hc⟩ := Option.isSome_iff_exists.1 h
          rcases seen_inv _ _ _ _ hc with h1 | ⟨y, hy, e1, e2⟩
          · cases h1
          · obtain ⟨k, hk⟩ := List.mem_iff_getElem?.1 hy
            have hk2 : k < i := by have := (List.getElem?_eq_some_iff.1 hk).1; rw [List.length_take] at this; omega
            rw [List.getElem?_take_of_lt hk2] at hk
            exact ⟨k, y, hk2, hk, e1, e2⟩
        · rintro ⟨k, y, hk, hy, e1, e2⟩
          rw [← e1, ← e2]
          exact seen_there _ _ y (List.mem_of_getElem? (i := k) (by rw [List.getElem?_take_of_lt hk]; exact hy))
      have HGB := Lib.hid hgb
      have HL := Lib.hid hL
      have HUP := Lib.hid hup
      have hmu : nmK.ok (b.user, b.name) := by show b.user.size ≤ maxLen ∧ b.name.size ≤ maxLen; unfold maxLen; omega
      have HMU := Lib.hid hmu
      clear hgb rm hL hup hnm hm1 hu1 hn1 hmu
      obtain ⟨bV, bU, bN, bX, bM⟩ := b
      simp only at p0 p1 p2 p3 p4 HBK HST HLN HTW HMU
      have hi0 : (0 : Int) ≤ (i : Int) := by omega
      have hi1 : (i : Int) < (n : Int) := by omega
      have XB := Box.new wr #[.int .i64 bV, .string bU, .string bN, .int .i64 bX, .slice am nm cm] 57
      have k9 := belNew wr (.cells #[.int .i64 bV, .string bU, .string bN, .int .i64 bX, .slice am nm cm] 57)
      have b9 := bW.trans (k9.mono bW.size)
      replace MM := MM.later k9
      clear k9
      go_upto_region 6 with fail
      clear p0 p1 p2 p3 p4 bW
      generalize wr.alloc (.cells #[.int .i64 bV, .string bU, .string bN, .int .i64 bX, .slice am nm cm] 57) = w9 at XB b9 MM ⊢
      generalize wr.heap.size = g9 at XB ⊢
      obtain ⟨c0, c1, c2, c3, c4⟩ := XB.five
      have XN := Box.new w9 #[.string bU, .string bN] 68
      have k10 := belNew w9 (.cells #[.string bU, .string bN] 68)
      have b10 := b9.trans (k10.mono b9.size)
      replace MM := MM.later k10
      replace XB := XB.later k10
      clear k10 b9
      go_upto_region 7 with fail
      clear c0 c1 c2 c3 c4
      generalize w9.alloc (.cells #[.string bU, .string bN] 68) = w10 at XN XB MM b10 ⊢
      generalize w9.heap.size = g10 at XN ⊢
      have t0 := XN.cell 0 (.string bU) rfl
      have t1 := XN.cell 1 (.string bN) rfl
      obtain ⟨c0, c1, c2, c3, c4⟩ := XB.five
      generalize hsm : seenM (ps.take i) = f at *
      clear hsm
      have HXB : Hid (∀ x, Below w10.heap.size w10 x → (x.cell? ⟨g9, 0, none⟩ = some (.int .i64 bV)) ∧ x.cell? ⟨g10, 0, none⟩ = some (.string bU) ∧ x.cell? ⟨g10, 1, none⟩ = some (.string bN) ∧ MapIs nmK inV' x gM i f ∧ Below w.heap.size w x) := fun x hx => ⟨(XB.later hx).cell 0 _ rfl, (XN.later hx).cell 0 _ rfl, (XN.later hx).cell 1 _ rfl, MM.later hx, b10.trans (hx.mono b10.size)⟩
      clear XB XN
      cases hf : f (bU, bN) with
      | some c =>
        have hlk : (Instr.lookup 66 (.map (some gM)) (.agg #[.string bU, .string bN]) true).run Try.prog w10 = .ok (.tuple #[.int .i64 c, .bool true]) w10 := MM.look_there (t := 66) Try.underlying66 (zero_int' w10) HMU.out hf true
        have HE : Hid (stB ps = false) := by
          obtain ⟨k, y, hk, hy, e⟩ := HTW.out.1 (by rw [hf]; rfl)
          exact stB_twice HGB.out hk hy e
        clear MM hf HTW HST HL HUP HLN HBK
        by_cases hv : bV ≤ L
        · go_wp2
          go_ret
          exact ⟨by rw [HE.out]; rfl, b10⟩
        · go_wp2
          go_ret
          exact ⟨by rw [HE.out]; rfl, b10⟩
      | none =>
        have hlk : (Instr.lookup 66 (.map (some gM)) (.agg #[.string bU, .string bN]) true).run Try.prog w10 = .ok (.tuple #[.int .i64 0, .bool false]) w10 := MM.look_gone (t := 66) Try.underlying66 (zero_int' w10) HMU.out hf true
        have HNO : Hid (∀ (k : Nat) (y : Bx), k < i → ps[k]? = some y → ¬ (y.user = bU ∧ y.name = bN)) := fun k y hk hy e => by
          have := HTW.out.2 ⟨k, y, hk, hy, e⟩
          rw [hf] at this
          cases this
        clear MM hf HTW
        by_cases hv : bV ≤ L
        · have HE : Hid (stB ps = false) := by
            rcases Nat.eq_zero_or_pos i with e | e
            · exact stB_box HGB.out (fun c => by have h1 := c.1.1; have h2 := HL.out.1 e; simp only at h1; omega)
            · obtain ⟨p, hp⟩ : ∃ p, ps[i - 1]? = some p := ⟨_, List.getElem?_eq_getElem (by rw [HN.out]; omega)⟩
              exact stB_up HGB.out e hp (by have h2 := HL.out.2 p e hp; simp only; omega)
          clear HST HL HUP HLN HBK
          go_wp2
          go_ret
          exact ⟨by rw [HE.out]; rfl, b10⟩
        have HBK' := Lib.hid (HBK.out w10 b10)
        generalize hT : bkB ⟨bV, bU, bN, bX, bM⟩ = T at HBK'
        cases T with
        | false =>
          have HE : Hid (stB ps = false) := stB_no (fun c => by
            have h1 := bkB_yes ⟨(c _ HGB.out).1, (c _ HGB.out).2.2.2⟩
            rw [hT] at h1
            cases h1)
          clear HST HL HUP HLN HBK hT
          go_wp2_with (go_at_call 43; refine HBK'.out.mono ?_; rintro e w12 ⟨rfl, k12⟩)
          have bE := (HXB.out _ k12).2.2.2.2
          go_ret
          exact ⟨by rw [HE.out]; rfl, bE⟩
        | true =>
          have HS : Hid (∀ j, j < i + 1 → StAt ps j) := fun j hj => by
            rcases Nat.lt_succ_iff_lt_or_eq.1 hj with h | rfl
            · exact HUP.out j h
            · have hk := bkB_of hT
              exact StAt.of HGB.out hk.1 (fun p h0 hp => by have h2 := HL.out.2 p h0 hp; simp only; omega) HNO.out (fun q _ => hk.2 q)
          clear HL HUP HBK hT HNO
          go_wp2_with (first | (go_at_call 43; refine HBK'.out.mono ?_; rintro e w12 ⟨rfl, k12⟩; obtain ⟨q0, q1, q2, MM, bE⟩ := HXB.out _ k12; have HMM := Lib.hid MM; have HBE := Lib.hid bE; clear MM bE) | (at_mapUpdate; refine wpList_put rfl _ _ _ _ rfl nmK inV' inV'_inj _ Try.underlying66 gM i f rfl HMM.out (by unfold maxLen; omega) (bU, bN) bV rfl rfl HMU.out ?_; intro w13 hM hg13 hs13))
          exact ⟨⟨i + 1, bV, by omega, by simp, rfl, HLN.out, HS.out, by rw [HST.out]; exact hM, HBE.out.grown hg13 HBE.out.size (fun q hq => by cases hq; exact HGM.out)⟩, by first | omega | (simp [intOf]; omega)⟩
    · have HE : Hid (stB ps = true) := stB_all (fun j hj => hup j (by rw [HN.out] at hj; omega))
      clear hL hup MM
      go_wp2
      go_ret
      exact ⟨by rw [HE.out]; rfl, bW⟩

end Go.Proofs.Ytjfilicddnhniab

/- How great boxes are, plainly. -/
namespace Go.Proofs.Ytjfilicddnhniab

/-- The bytes of the texts of mails. -/
def txs : List Ml → Nat
  | [] => 0
  | m :: ms => m.text.size + txs ms
theorem txs_append : ∀ (l m : List Ml), txs (l ++ m) = txs l + txs m
  | [], m => by simp [txs]
  | x :: l, m => by simp [txs, txs_append l m]; omega
theorem txs_take {l : List Ml} {i : Nat} {m : Ml} (h : l[i]? = some m) : txs (l.take (i + 1)) = txs (l.take i) + m.text.size := by
  rw [List.take_add_one, h, txs_append]; simp [txs]
theorem txs_mem : ∀ {l : List Ml} {m : Ml}, m ∈ l → m.text.size ≤ txs l
  | x :: l, m, h => by
    rcases List.mem_cons.1 h with rfl | h
    · simp [txs]
    · have := txs_mem h; simp [txs]; omega
theorem txs_take_le (l : List Ml) (i : Nat) : txs (l.take i) ≤ txs l := by
  have := txs_append (l.take i) (l.drop i)
  rw [List.take_append_drop] at this; omega
/-- A box: its words, its mails and their texts. -/
def bz (b : Bx) : Nat := b.user.size + b.name.size + (b.mails.length + txs b.mails)
def bzs : List Bx → Nat
  | [] => 0
  | b :: bs => bz b + bzs bs
theorem bzs_append : ∀ (l m : List Bx), bzs (l ++ m) = bzs l + bzs m
  | [], m => by simp [bzs]
  | x :: l, m => by simp [bzs, bzs_append l m]; omega
theorem bzs_take {l : List Bx} {i : Nat} {b : Bx} (h : l[i]? = some b) : bzs (l.take (i + 1)) = bzs (l.take i) + bz b := by
  rw [List.take_add_one, h, bzs_append]; simp [bzs]
theorem bzs_mem : ∀ {l : List Bx} {b : Bx}, b ∈ l → bz b ≤ bzs l
  | x :: l, b, h => by
    rcases List.mem_cons.1 h with rfl | h
    · simp [bzs]
    · have := bzs_mem h; simp [bzs]; omega
/-- Texts whose lengths are lengths. -/
def mlShort (m : Ml) : Prop := m.text.size ≤ 9223372036854775807
def bxShort (b : Bx) : Prop := b.user.size ≤ 9223372036854775807 ∧ b.name.size ≤ 9223372036854775807 ∧ b.mails.length ≤ 9223372036854775807 ∧ ∀ m ∈ b.mails, mlShort m
theorem bz_user (b : Bx) : b.user.size ≤ bz b := by unfold bz; omega
theorem bz_name (b : Bx) : b.name.size ≤ bz b := by unfold bz; omega
theorem bz_mails (b : Bx) : b.mails.length ≤ bz b := by unfold bz; omega
theorem bz_text {b : Bx} {m : Ml} (h : m ∈ b.mails) : m.text.size ≤ bz b := by have := txs_mem h; unfold bz; omega

end Go.Proofs.Ytjfilicddnhniab

/- The marks of boxes, plainly. -/
namespace Go.Proofs.Ytjfilicddnhniab

/-- A box with its marks from k on, and the number behind them. -/
def markB (k : Nat) (b : Bx) : Bx := ⟨((k : Nat) : Int), mark (k + 1), mark (k + 2), ((k + 3 : Nat) : Int), marksL (k + 4) b.mails.length⟩
def kB (k : Nat) (b : Bx) : Nat := k + 4 + 3 * b.mails.length
def marksB : Nat → List Bx → List Bx
  | _, [] => []
  | k, b :: bs => markB k b :: marksB (kB k b) bs
def kE : Nat → List Bx → Nat
  | k, [] => k
  | k, b :: bs => kE (kB k b) bs
theorem marksB_length : ∀ (k : Nat) (bs : List Bx), (marksB k bs).length = bs.length
  | _, [] => rfl
  | k, b :: bs => by simp [marksB, marksB_length (kB k b) bs]
theorem kE_le : ∀ (k : Nat) (bs : List Bx), k ≤ kE k bs
  | _, [] => Nat.le_refl _
  | k, b :: bs => by have := kE_le (kB k b) bs; unfold kE; unfold kB at *; omega
theorem kE_take : ∀ (k : Nat) (bs : List Bx) (i : Nat) (b : Bx), bs[i]? = some b → kE k (bs.take (i + 1)) = kB (kE k (bs.take i)) b
  | _, [], i, b, h => by cases h
  | k, c :: bs, 0, b, h => by cases h; rfl
  | k, c :: bs, i + 1, b, h => by
    show kE (kB k c) (bs.take (i + 1)) = kB (kE (kB k c) (bs.take i)) b
    exact kE_take (kB k c) bs i b h
theorem kE_take_le (k : Nat) (bs : List Bx) : ∀ i, kE k (bs.take i) ≤ kE k bs := by
  induction bs generalizing k with
  | nil => intro i; simp [kE]
  | cons b bs ih =>
    intro i
    cases i with
    | zero => exact kE_le k (b :: bs)
    | succ i => exact ih (kB k b) i
theorem marksB_at : ∀ (k : Nat) (bs : List Bx) (i : Nat) (b : Bx), bs[i]? = some b → (marksB k bs)[i]? = some (markB (kE k (bs.take i)) b)
  | _, [], i, b, h => by cases h
  | k, c :: bs, 0, b, h => by cases h; rfl
  | k, c :: bs, i + 1, b, h => by
    show (marksB (kB k c) bs)[i]? = some (markB (kE (kB k c) (bs.take i)) b)
    exact marksB_at (kB k c) bs i b h
/-- The first i marked. -/
def putB (k : Nat) (bs : List Bx) (i : Nat) : List Bx := (marksB k bs).take i ++ bs.drop i
theorem putB_zero (k : Nat) (bs : List Bx) : putB k bs 0 = bs := by simp [putB]
theorem putB_all (k : Nat) (bs : List Bx) : putB k bs bs.length = marksB k bs := by
  unfold putB
  rw [List.take_of_length_le (by rw [marksB_length]; exact Nat.le_refl _), List.drop_length, List.append_nil]
theorem putB_length (k : Nat) (bs : List Bx) (i : Nat) (h : i ≤ bs.length) : (putB k bs i).length = bs.length := by
  unfold putB
  rw [List.length_append, List.length_take, List.length_drop, marksB_length]; omega
theorem putB_at (k : Nat) (bs : List Bx) (i : Nat) (b : Bx) (h : bs[i]? = some b) : (putB k bs i)[i]? = some b := by
  have hl : i < bs.length := (List.getElem?_eq_some_iff.1 h).1
  unfold putB
  rw [List.getElem?_append_right (by rw [List.length_take, marksB_length]; omega), List.length_take, marksB_length, Nat.min_eq_left (Nat.le_of_lt hl), Nat.sub_self, List.getElem?_drop, Nat.add_zero]
  exact h
theorem putB_set (k : Nat) (bs : List Bx) (i : Nat) (b : Bx) (h : bs[i]? = some b) : (putB k bs i).set i (markB (kE k (bs.take i)) b) = putB k bs (i + 1) := by
  have hl : i < bs.length := (List.getElem?_eq_some_iff.1 h).1
  unfold putB
  rw [List.set_append_right _ _ (by rw [List.length_take, marksB_length]; omega)]
  rw [List.length_take, marksB_length, Nat.min_eq_left (Nat.le_of_lt hl), Nat.sub_self, List.drop_eq_getElem_cons hl, List.set_cons_zero, List.take_add_one, marksB_at k bs i b h, List.append_assoc]
  rfl
end Go.Proofs.Ytjfilicddnhniab

/- The helpers of the exact laws over boxes and states: each is marked, and the marks are held. -/
namespace Go.Proofs.Ytjfilicddnhniab
open Go.RowKit

theorem set_ways {α : Type} {l : List α} {i j : Nat} {y z : α} (h : (l.set i y)[j]? = some z) : (j = i ∧ z = y) ∨ (j ≠ i ∧ l[j]? = some z) := by
  by_cases c : j = i
  · subst c
    have hl : j < l.length := by have := (List.getElem?_eq_some_iff.1 h).1; simpa using this
    rw [List.getElem?_set_self hl] at h
    exact .inl ⟨rfl, (Option.some.inj h).symm⟩
  · rw [List.getElem?_set_ne (fun e => c e.symm)] at h
    exact .inr ⟨c, h⟩

/-- One cell of a box's own put anew. -/
theorem StO.store {B : Nat} {w : World} {g n cap : Nat} {bs : List Bx} {hs : List BxH} (h : StO B w (.slice (some ⟨g, 0, none⟩) n cap) bs hs) (hn : n = hs.length) {i : Nat} {x : BxH} (hx : hs[i]? = some x) {b : Bx} (hb : bs[i]? = some b)
    (c : Nat) (hc : c < 5) (u : Value) (x' : BxH) (hf : hdE.f x' = (hdE.f x).set c u) (hmv : x'.mv = x.mv) (b' : Bx) (hb' : x'.valid = b'.valid ∧ x'.user = b'.user ∧ x'.name = b'.name ∧ x'.next = b'.next) (hm : b'.mails = b.mails) :
    StO B (w.setCell ⟨g, i * 5 + c, none⟩ u) (.slice (some ⟨g, 0, none⟩) n cap) (bs.set i b') (hs.set i x') := by
  subst hn
  have hg := grownBy_store w g (i * 5 + c) u
  have kept : ∀ (m : Value) (l : List Ml), RBuf mlE B w w m l → (∀ k, m.ownBlock = some k → (Value.slice (some ⟨g, 0, none⟩) hs.length cap).ownBlock ≠ some k) → RBuf mlE B (w.setCell ⟨g, i * 5 + c, none⟩ u) (w.setCell ⟨g, i * 5 + c, none⟩ u) m l := fun m l hm hf => by
    refine hm.shift hg ?_
    cases hmb : m.ownBlock with
    | none => exact .inl rfl
    | some k => exact .inr (fun e => hf k hmb e.symm)
  have hmvs : ∀ {j : Nat} {y : BxH}, (hs.set i x')[j]? = some y → ∃ z, hs[j]? = some z ∧ y.mv = z.mv := fun {j y} hj => by
    rcases set_ways hj with ⟨rfl, rfl⟩ | ⟨_, hj⟩
    · exact ⟨x, hx, hmv⟩
    · exact ⟨y, hj, rfl⟩
  refine ⟨(h.row.stored i x x' hx c hc u hf).here, by simp [h.len], fun j y d h1 h2 => ?_, fun j y h1 k hk => ?_, fun j k y z h1 h2 hjk q hq => ?_⟩
  · rcases set_ways h1 with ⟨rfl, rfl⟩ | ⟨hne, h1⟩
    · rcases set_ways h2 with ⟨_, rfl⟩ | ⟨hne, _⟩
      · refine ⟨hb', ?_⟩
        rw [hmv, hm]
        exact kept _ _ (h.at' j x b hx hb).2 (h.far j x hx)
      · exact absurd rfl hne
    · rcases set_ways h2 with ⟨e, _⟩ | ⟨_, h2⟩
      · exact absurd e hne
      · exact ⟨(h.at' j y d h1 h2).1, kept _ _ (h.at' j y d h1 h2).2 (h.far j y h1)⟩
  · obtain ⟨z, hz, e⟩ := hmvs h1
    rw [e] at hk
    exact h.far j z hz k hk
  · obtain ⟨y0, hy0, e1⟩ := hmvs h1
    obtain ⟨z0, hz0, e2⟩ := hmvs h2
    rw [e1] at hq
    rw [e2]
    exact h.apart j k y0 z0 hy0 hz0 hjk q hq

/-- The mails of a box put anew. -/
theorem StO.mails {B : Nat} {w w' : World} {v : Value} {bs : List Bx} {hs : List BxH} (h : StO B w v bs hs) {i : Nat} {x : BxH} (hx : hs[i]? = some x) {b : Bx} (hb : bs[i]? = some b) (ms : List Ml) (hr : RBuf mlE B w' w' x.mv ms) (hg : w.grownBy w' x.mv.ownBlock) :
    StO B w' v (bs.set i ⟨b.valid, b.user, b.name, b.next, ms⟩) hs := by
  refine ⟨h.row.shift hg ?_, by simp [h.len], fun j y d h1 h2 => ?_, h.far, h.apart⟩
  · cases hv : x.mv.ownBlock with
    | none =>
      cases hv2 : v.ownBlock with
      | none => exact .inl rfl
      | some k => exact .inr (fun e => by cases e)
    | some k => exact .inr (fun e => h.far i x hx k hv e)
  · rcases set_ways h2 with ⟨rfl, rfl⟩ | ⟨hne, h2⟩
    · rw [hx] at h1
      cases h1
      exact ⟨(h.at' j x b hx hb).1, hr⟩
    · refine ⟨(h.at' j y d h1 h2).1, (h.at' j y d h1 h2).2.shift hg ?_⟩
      cases hy : y.mv.ownBlock with
      | none => exact .inl rfl
      | some k => exact .inr (fun e => h.apart j i y x h1 hx hne k hy e.symm)

theorem StO.cellAt {B : Nat} {w : World} {g n cap : Nat} {bs : List Bx} {hs : List BxH} (h : StO B w (.slice (some ⟨g, 0, none⟩) n cap) bs hs) {i : Nat} {y : BxH} (hy : hs[i]? = some y) (hl : n = hs.length) (q : Nat) (u : Value) (hu : (hdE.f y)[q]? = some u) : w.cell? ⟨g, i * 5 + q, none⟩ = some u ∧ w.frozen? ⟨g, i * 5 + q, none⟩ = false := by
  subst hl
  exact ⟨h.row.cell rfl i y hy q u hu, h.row.loose _⟩



end Go.Proofs.Ytjfilicddnhniab
