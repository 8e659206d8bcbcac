/- Texts of our own, joined. -/
import Derived.Test.YtahebgceoidebaaGreatJb
import Derived.Maps.RangeWalk
import Derived.Maps.OwnSet
import Derived.DeepKeys4
import Derived.WalkArith
import Derived.Laws.StructEq
import Derived.WalkSpells
import Derived.WalkSmall
import Derived.Test.YtahebgceoidebaaGreatJc
/- Maps of a call's own, as functions: at each key what stands there, or nothing. -/
namespace Go.Proofs.YtahebgceoidebaaGreat
open Go.RowKit
open Go.Maps (Keyed)

section
variable {β : Type}

open Classical in
/-- An element of a map, told by what it is the value of. -/
noncomputable def shp (mk : β → Value) (v : Value) : Option (DataW β × List MemPlace) :=
  if h : ∃ c, v = mk c then some (.held (Classical.choose h), []) else none

theorem shp_inv {mk : β → Value} {v : Value} {y : DataW β × List MemPlace} (h : shp mk v = some y) : ∃ c, v = mk c ∧ y = (.held c, []) := by
  unfold shp at h
  split at h
  · rename_i hc
    cases h
    exact ⟨_, Classical.choose_spec hc, rfl⟩
  · cases h

theorem shp_mk {mk : β → Value} (hi : ∀ x y, mk x = mk y → x = y) (c : β) : shp mk (mk c) = some (.held c, []) := by
  unfold shp
  have h : ∃ c', mk c = mk c' := ⟨c, rfl⟩
  rw [dif_pos h]
  have := hi _ _ (Classical.choose_spec h)
  rw [← this]
end

/-- How keys stand. -/
structure KeyE (P : Program) (κ : Type) where
  ty : TypeId
  law : Keyed P ty
  val : κ → Value
  lit : κ → Lit
  ok : κ → Prop
  key : ∀ x, ok x → keyOf P ty (val x) = some (lit x)
  inv : ∀ v l, keyOf P ty v = some l → ∃ x, ok x ∧ v = val x
  inj : ∀ x y, val x = val y → x = y

/-- Whole numbers as keys. -/
def intK {P : Program} (t : TypeId) (h : P.underlying t = some (.int .i64)) : KeyE P Int where
  ty := t
  law := Maps.int_keyed h
  val := Value.int .i64
  lit := Lit.int .i64
  ok := fun x => (Lit.int .i64 x).wf = true
  key := fun _ hx => Maps.keyOf_int_mk h hx
  inv := fun v l hv => by
    obtain ⟨x, rfl, rfl, hx⟩ := Maps.keyOf_int_inv h hv
    exact ⟨x, hx, rfl⟩
  inj := fun x y e => by cases e; rfl

section
variable {P : Program} {κ β : Type}

theorem KeyE.lit_inj (K : KeyE P κ) {x y : κ} (hx : K.ok x) (hy : K.ok y) (h : K.lit x = K.lit y) : x = y := by
  have h1 := K.key x hx
  have h2 := K.key y hy
  rw [h] at h1
  exact K.inj _ _ (K.law.inj h1 h2)

theorem KeyE.isKey (K : KeyE P κ) {x : κ} (hx : K.ok x) : WideAt.IsKeyLit (K.lit x) := K.law.key (K.key x hx)

/-- What a datum has at each key. -/
def Looks (K : KeyE P κ) (D : DataW β) (f : κ → Option β) : Prop :=
  ∀ x, K.ok x → (f x = none ∧ Maps.has D (K.lit x) = false) ∨ ∃ c, f x = some c ∧ Maps.has D (K.lit x) = true ∧ ∀ z, D.atKey (K.lit x) z = .held c

/-- The map in the block b holds f, in at most n entries. -/
def MapIs (K : KeyE P κ) (mk : β → Value) (w : World) (b n : Nat) (f : κ → Option β) : Prop :=
  ∃ D : DataW β, w.ownsMap P K.ty (shp mk) b n D ∧ Looks K D f

/-- It is gone through: what is still to come. -/
def MapGo (K : KeyE P κ) (mk : β → Value) (w : World) (b r n : Nat) (f : κ → Option β) (todo : κ → Bool) (cnt : Nat) : Prop :=
  ∃ (D : DataW β) (left : Lit → Bool), w.ranges P K.ty (shp mk) b r n D left cnt ∧ Looks K D f ∧ ∀ x, K.ok x → left (K.lit x) = todo x

variable {K : KeyE P κ} {mk : β → Value} {w w' : World} {b r n cnt : Nat} {f : κ → Option β} {todo : κ → Bool}

theorem MapIs.made (K : KeyE P κ) (mk : β → Value) (w : World) : MapIs K mk (w.alloc (.map #[] 0)) w.heap.size 0 (fun _ => none) :=
  ⟨.map [], World.ownsMap_made w P K.ty (shp mk), fun _ _ => .inl ⟨rfl, rfl⟩⟩
theorem MapIs.lt (h : MapIs K mk w b n f) : b < w.heap.size := by obtain ⟨D, h1, _⟩ := h; exact h1.lt
theorem MapIs.mono (h : MapIs K mk w b n f) {n' : Nat} (hn : n ≤ n') : MapIs K mk w b n' f := by obtain ⟨D, h1, h2⟩ := h; exact ⟨D, h1.mono hn, h2⟩
theorem MapIs.kept {row : Option Nat} (h : MapIs K mk w b n f) (hg : w.grownBy w' row) (hne : some b ≠ row) : MapIs K mk w' b n f := by
  obtain ⟨D, h1, h2⟩ := h
  exact ⟨D, h1.kept hg hne, h2⟩
theorem MapIs.later (h : MapIs K mk w b n f) (hb : Below w.heap.size w w') : MapIs K mk w' b n f :=
  h.kept (row := none) ⟨hb.os, hb.tape, hb.output, hb.size, fun k hk _ => hb.block k hk⟩ (by simp)
theorem MapIs.under {B : Nat} (h : MapIs K mk w b n f) (hb : Below B w w') (hl : b < B) : MapIs K mk w' b n f := by
  obtain ⟨D, ⟨es, clock, e, r⟩, h2⟩ := h
  exact ⟨D, ⟨es, clock, (hb.block b hl).trans e, r⟩, h2⟩
theorem MapIs.same (h : MapIs K mk w b n f) (e : w'.heap[b]? = w.heap[b]?) : MapIs K mk w' b n f := by
  obtain ⟨D, ⟨es, clock, e0, r⟩, h2⟩ := h
  exact ⟨D, ⟨es, clock, e.trans e0, r⟩, h2⟩
theorem MapIs.setCell (h : MapIs K mk w b n f) {a : Addr} (ha : b ≠ a.block) (u : Value) : MapIs K mk (w.setCell a u) b n f := by
  obtain ⟨D, h1, h2⟩ := h
  exact ⟨D, h1.setCell ha u, h2⟩
theorem MapIs.congr {g : κ → Option β} (h : MapIs K mk w b n f) (e : ∀ x, K.ok x → f x = g x) : MapIs K mk w b n g := by
  obtain ⟨D, h1, h2⟩ := h
  refine ⟨D, h1, fun x hx => ?_⟩
  rw [← e x hx]
  exact h2 x hx

/-- A block is no map and a row of cells. -/
theorem MapIs.notBox {cs : Array Value} {t : TypeId} (h : MapIs K mk w b n f) {g : Nat} (hb : Box w g cs t) : b ≠ g := by
  obtain ⟨D, ⟨es, clock, e, _⟩, _⟩ := h
  rintro rfl
  unfold Box at hb
  rw [e] at hb
  cases hb

theorem MapIs.look_there {t e : TypeId} (h : MapIs K mk w b n f) (ht : P.underlying t = some (.map K.ty e)) {z : Value} (hz : (zeroValue e).run P w = .ok z w) {x : κ} (hx : K.ok x) {c : β} (hf : f x = some c) (ok : Bool) :
    (Instr.lookup t (.map (some b)) (K.val x) ok).run P w = .ok (if ok then .tuple #[mk c, .bool true] else mk c) w := by
  obtain ⟨D, ⟨es, clock, hb, F, _, rfl⟩, hL⟩ := h
  rcases hL x hx with ⟨h1, _⟩ | ⟨c', h1, hh, h2⟩
  · rw [hf] at h1; cases h1
  · rw [hf] at h1
    cases h1
    rcases Maps.fit_look ok K.law ht hz hb F (K.key x hx) with ⟨hrun, _, hat⟩ | ⟨e0, y, _, _, hrun, hRv, hat, _⟩
    · have h3 := Maps.has_false_of_atKey hat
      rw [hh] at h3
      cases h3
    · obtain ⟨c2, e1, e2⟩ := shp_inv hRv
      have h3 : y.1 = .held c := (hat .nil).symm.trans (h2 .nil)
      rw [e2] at h3
      cases h3
      rw [e1] at hrun
      exact hrun

theorem MapIs.look_gone {t e : TypeId} (h : MapIs K mk w b n f) (ht : P.underlying t = some (.map K.ty e)) {z : Value} (hz : (zeroValue e).run P w = .ok z w) {x : κ} (hx : K.ok x) (hf : f x = none) (ok : Bool) :
    (Instr.lookup t (.map (some b)) (K.val x) ok).run P w = .ok (if ok then .tuple #[z, .bool false] else z) w := by
  obtain ⟨D, ⟨es, clock, hb, F, _, rfl⟩, hL⟩ := h
  rcases hL x hx with ⟨_, hh⟩ | ⟨c', h1, _⟩
  · rcases Maps.fit_look ok K.law ht hz hb F (K.key x hx) with ⟨hrun, _, hat⟩ | ⟨e0, y, _, _, hrun, hRv, hat, _⟩
    · exact hrun
    · have h3 := Maps.has_true_of_atKey hat
      rw [hh] at h3
      cases h3
  · rw [hf] at h1; cases h1

theorem MapIs.len {t e : TypeId} (h : MapIs K mk w b n f) (ht : P.underlying t = some (.map K.ty e)) (ty : TypeId) : ∃ k : Nat, k ≤ n ∧ (Builtin.len_ #[t] ty #[.map (some b)]).run P w = .ok (.int .i64 k) w := by
  obtain ⟨D, h1, _⟩ := h
  exact ⟨_, h1.size_le, h1.len ht ty⟩

/-! ### gone through -/
theorem MapGo.is (h : MapGo K mk w b r n f todo cnt) : MapIs K mk w b n f := by
  obtain ⟨D, left, h1, h2, _⟩ := h
  exact ⟨D, h1.owns, h2⟩
theorem MapGo.left_eq (h : MapGo K mk w b r n f todo cnt) : w.rangeLeft b r = cnt := by obtain ⟨D, left, h1, _⟩ := h; exact h1.left_eq
theorem MapGo.ne (h : MapGo K mk w b r n f todo cnt) : r ≠ b := by obtain ⟨D, left, h1, _⟩ := h; exact h1.ne
theorem MapGo.lt (h : MapGo K mk w b r n f todo cnt) : r < w.heap.size := by obtain ⟨D, left, h1, _⟩ := h; exact h1.lt
theorem MapGo.kept {row : Option Nat} (h : MapGo K mk w b r n f todo cnt) (hg : w.grownBy w' row) (h1 : some b ≠ row) (h2 : some r ≠ row) : MapGo K mk w' b r n f todo cnt := by
  obtain ⟨D, left, h3, h4⟩ := h
  exact ⟨D, left, h3.kept hg h1 h2, h4⟩
theorem MapGo.later (h : MapGo K mk w b r n f todo cnt) (hb : Below w.heap.size w w') : MapGo K mk w' b r n f todo cnt :=
  h.kept (row := none) ⟨hb.os, hb.tape, hb.output, hb.size, fun k hk _ => hb.block k hk⟩ (by simp) (by simp)
theorem MapGo.notBox {cs : Array Value} {t : TypeId} (h : MapGo K mk w b r n f todo cnt) {g : Nat} (hb : Box w g cs t) : r ≠ g := by
  obtain ⟨D, left, ⟨es, clock, _, _, _, _, _, _, _, e, _⟩, _⟩ := h
  rintro rfl
  unfold Box at hb
  rw [e] at hb
  cases hb

/-- 'range m', at the operation. -/
theorem wpList_range_is {ops : Array Oper} {rest : List Oper} {o : Oper} {a : Act} {Q : Exit → Act → World → Prop} (hg : o.guard = none) (m : Operand) (t : TypeId) (hop : o.op = Op.range t m)
    (K : KeyE P κ) (mk : β → Value) (e : TypeId) (ht : P.underlying t = some (.map K.ty e)) (b n : Nat) (f : κ → Option β) (hm : a.eval m = .map (some b)) (h : MapIs K mk w b n f)
    (hK : ∀ w' cnt, cnt ≤ n → MapGo K mk w' b w.heap.size n f (fun x => (f x).isSome) cnt → w.grownBy w' none → w'.heap.size = w.heap.size + 1 → wpList P ops Q rest (a.put o.dst (.pointer (some ⟨w.heap.size, 0, none⟩))) w') :
    wpList P ops Q (o :: rest) a w := by
  obtain ⟨D, h1, h2⟩ := h
  refine wpList_range_own w hg m t hop K.ty e K.law ht (shp mk) b n D hm h1 fun w' r1 r2 r3 => hK w' _ h1.size_le ⟨D, _, r1, h2, fun x hx => ?_⟩ r2 r3
  rcases h2 x hx with ⟨e1, e2⟩ | ⟨c, e1, e2, _⟩
  · show _ = (f x).isSome
    rw [e1, e2]; rfl
  · show _ = (f x).isSome
    rw [e1, e2]; rfl

variable [DecidableEq κ]

theorem Looks.put {D : DataW β} (h : Looks K D f) (hD : Maps.IsMap D) {x : κ} (hx : K.ok x) (c : β) : Looks K (D.put (K.lit x) (.held c)) (fun y => if y = x then some c else f y) := by
  intro y hy
  by_cases e : y = x
  · subst e
    refine .inr ⟨c, by simp, Maps.has_put_same hD (K.isKey hy) _, fun z => Maps.atKey_put_same hD (K.isKey hy) _ z⟩
  · have hne : K.lit y ≠ K.lit x := fun e2 => e (K.lit_inj hy hx e2)
    rcases h y hy with ⟨h1, h2⟩ | ⟨c', h1, h2, h3⟩
    · exact .inl ⟨by simp [e, h1], by rw [Maps.has_put_other hne]; exact h2⟩
    · exact .inr ⟨c', by simp [e, h1], by rw [Maps.has_put_other hne]; exact h2, fun z => by rw [Maps.atKey_put_other hne]; exact h3 z⟩

theorem Looks.del {D : DataW β} (h : Looks K D f) {x : κ} (hx : K.ok x) : Looks K (D.del (K.lit x)) (fun y => if y = x then none else f y) := by
  intro y hy
  by_cases e : y = x
  · subst e
    exact .inl ⟨by simp, Maps.has_del_same⟩
  · have hne : K.lit y ≠ K.lit x := fun e2 => e (K.lit_inj hy hx e2)
    rcases h y hy with ⟨h1, h2⟩ | ⟨c', h1, h2, h3⟩
    · exact .inl ⟨by simp [e, h1], by rw [Maps.has_del_other hne]; exact h2⟩
    · exact .inr ⟨c', by simp [e, h1], by rw [Maps.has_del_other hne]; exact h2, fun z => by rw [Maps.atKey_del_other hne]; exact h3 z⟩

/-- A store. -/
theorem MapIs.put {t e : TypeId} (h : MapIs K mk w b n f) (hi : ∀ x y, mk x = mk y → x = y) (ht : P.underlying t = some (.map K.ty e)) (hn : n < maxLen) {x : κ} (hx : K.ok x) (c : β) :
    ∃ w', (Instr.mapUpdate t (.map (some b)) (K.val x) (mk c)).run P w = .ok () w' ∧ MapIs K mk w' b (n + 1) (fun y => if y = x then some c else f y) ∧ w.grownBy w' (some b) ∧ w'.heap.size = w.heap.size := by
  obtain ⟨D, h1, h2⟩ := h
  obtain ⟨w', r1, r2, r3⟩ := h1.store K.law ht hn (K.key x hx) (shp_mk hi c)
  refine ⟨w', r1, ⟨_, r2, h2.put h1.isMap hx c⟩, r3.grown, ?_⟩
  obtain ⟨_, _, _, _, _, rfl⟩ := r3
  simp [ChangeMaps.setBlock]

theorem MapIs.del {t e : TypeId} (h : MapIs K mk w b n f) (ht : P.underlying t = some (.map K.ty e)) {x : κ} (hx : K.ok x) (ty : TypeId) :
    ∃ w', (Builtin.delete_ #[t, K.ty] ty #[.map (some b), K.val x]).run P w = .ok (.tuple #[]) w' ∧ MapIs K mk w' b n (fun y => if y = x then none else f y) ∧ w.grownBy w' (some b) ∧ w'.heap.size = w.heap.size := by
  obtain ⟨D, h1, h2⟩ := h
  obtain ⟨w', r1, r2, r3⟩ := h1.drop K.law ht (K.key x hx) ty
  refine ⟨w', r1, ⟨_, r2, h2.del hx⟩, r3.grown, ?_⟩
  obtain ⟨_, _, _, _, _, rfl⟩ := r3
  simp [ChangeMaps.setBlock]

/-- A store, at the operation. -/
theorem wpList_put {ops : Array Oper} {rest : List Oper} {o : Oper} {a : Act} {Q : Exit → Act → World → Prop} (hg : o.guard = none) (m x v : Operand) (t : TypeId) (hop : o.op = Op.mapUpdate t m x v)
    (K : KeyE P κ) (mk : β → Value) (hi : ∀ x y, mk x = mk y → x = y) (e : TypeId) (ht : P.underlying t = some (.map K.ty e)) (b n : Nat) (f : κ → Option β)
    (hm : a.eval m = .map (some b)) (h : MapIs K mk w b n f) (hn : n < maxLen) (y : κ) (c : β) (hx : a.eval x = K.val y) (hv : a.eval v = mk c) (hok : K.ok y)
    (hK : ∀ w', MapIs K mk w' b (n + 1) (fun z => if z = y then some c else f z) → w.grownBy w' (some b) → w'.heap.size = w.heap.size → wpList P ops Q rest (a.put o.dst undef) w') :
    wpList P ops Q (o :: rest) a w := by
  refine wpList_plain hg fun K' hK' => ?_
  obtain ⟨w', hrun, r1, r2, r3⟩ := h.put hi ht hn hok c
  unfold Oper.wp
  simp [execOp, hop, hm, hx, hv, hrun, Result.andThen]
  exact hK' _ _ (hK w' r1 r2 r3)

/-- A delete, at the operation. -/
theorem wpList_del {ops : Array Oper} {rest : List Oper} {o : Oper} {a : Act} {Q : Exit → Act → World → Prop} (hg : o.guard = none) (m x : Operand) (t : TypeId) (K : KeyE P κ) (hop : o.op = Op.call { callee := Callee.builtin Builtin.delete, args := #[m, x], argTypes := #[t, K.ty] })
    (mk : β → Value) (e : TypeId) (ht : P.underlying t = some (.map K.ty e)) (b n : Nat) (f : κ → Option β)
    (hm : a.eval m = .map (some b)) (h : MapIs K mk w b n f) (y : κ) (hx : a.eval x = K.val y) (hok : K.ok y)
    (hK : ∀ w', MapIs K mk w' b n (fun z => if z = y then none else f z) → w.grownBy w' (some b) → w'.heap.size = w.heap.size → wpList P ops Q rest (a.put o.dst (.tuple #[])) w') :
    wpList P ops Q (o :: rest) a w := by
  refine wpList_plain hg fun K' hK' => ?_
  obtain ⟨w', hrun, r1, r2, r3⟩ := h.del ht hok o.type
  unfold Oper.wp
  simp [execOp, hop, resolve, invoke, builtin, hm, hx, hrun, Result.andThen]
  exact hK' _ _ (hK w' r1 r2 r3)

/-- 'next', at the operation. -/
theorem wpList_next_is {ops : Array Oper} {rest : List Oper} {o : Oper} {a : Act} {Q : Exit → Act → World → Prop} (hg : o.guard = none) (it : Operand) (hop : o.op = Op.next it false)
    (K : KeyE P κ) (mk : β → Value) (hi : ∀ x y, mk x = mk y → x = y) (b r n : Nat) (f : κ → Option β) (todo : κ → Bool) (cnt : Nat) (hit : a.eval it = .pointer (some ⟨r, 0, none⟩)) (h : MapGo K mk w b r n f todo cnt)
    (hDone : (∀ x, K.ok x → todo x = false) → wpList P ops Q rest (a.put o.dst (.tuple #[.bool false])) w)
    (hMore : ∀ (x : κ) (c : β) (w' : World) (cnt' : Nat), K.ok x → todo x = true → f x = some c → MapGo K mk w' b r n f (fun y => todo y && !decide (y = x)) cnt' → cnt' < cnt → w.grownBy w' (some r) → w'.heap.size = w.heap.size →
      (Instr.entry (.pointer (some ⟨r, 0, none⟩))).run P w' = .ok (.tuple #[K.val x, mk c]) w' → wpList P ops Q rest (a.put o.dst (.tuple #[.bool true, K.val x, mk c])) w') :
    wpList P ops Q (o :: rest) a w := by
  obtain ⟨D, left, h1, h2, h3⟩ := h
  refine wpList_next_ranges (α := κ) (β := β) w hg it hop K.ty K.law (shp mk) K.val mk (fun key kl hk => ?_) (fun v y hv => ?_) b r n D left cnt hit h1 (fun _ hl => hDone fun x hx => by rw [← h3 x hx]; exact hl _) ?_
  · obtain ⟨x, _, rfl⟩ := K.inv key kl hk
    exact ⟨x, rfl⟩
  · obtain ⟨c, rfl, _⟩ := shp_inv hv
    exact ⟨c, rfl⟩
  · intro x c kl y w' cnt' hk hl hv hat hrg hlt hgr hsz hen
    obtain ⟨x', hx', e⟩ := K.inv _ _ hk
    have e' := K.inj _ _ e
    subst e'
    have ek : kl = K.lit x := Option.some.inj (hk.symm.trans (K.key x hx'))
    subst ek
    have hf : f x = some c := by
      have hh : Maps.has D (K.lit x) = true := Maps.has_true_of_atKey hat
      rcases h2 x hx' with ⟨_, e3⟩ | ⟨c', e3, _, e4⟩
      · rw [hh] at e3; cases e3
      · obtain ⟨c2, e5, e6⟩ := shp_inv hv
        have e7 : y.1 = .held c' := (hat .nil).symm.trans (e4 .nil)
        rw [e6] at e7
        cases e7
        rw [e3, hi _ _ e5]
    refine hMore x c w' cnt' hx' (by rw [← h3 x hx']; exact hl) hf ⟨D, _, hrg, h2, fun y' hy' => ?_⟩ hlt hgr hsz hen
    by_cases e3 : y' = x
    · subst e3
      simp [WideAt.sameKey_self (K.isKey hy')]
    · have : (K.lit y').sameKey (K.lit x) = false := Maps.sameKey_ne (fun e4 => e3 (K.lit_inj hy' hx' e4))
      rw [this, h3 y' hy']
      simp [e3]
end

end Go.Proofs.YtahebgceoidebaaGreat

/- Structs as keys of maps: two texts; three numbers. -/
namespace Go.Proofs.YtahebgceoidebaaGreat
open Go.RowKit
open Go.Maps (Keyed)

/-- What one cell reads as. -/
def strL (v : Value) : Option (List Lit) := match v with | .string a => if a.size ≤ maxLen then some [.string a.data.toList] else none | _ => none
def intL (v : Value) : Option (List Lit) := match v with | .int q n => if q = .i64 ∧ (Lit.int .i64 n).wf = true then some [.int .i64 n] else none | _ => none
theorem strL_inv {v : Value} {p : List Lit} (h : strL v = some p) : ∃ a, v = .string a ∧ a.size ≤ maxLen := by
  unfold strL at h
  cases v <;> simp at h
  exact ⟨_, rfl, h.1⟩
theorem intL_inv {v : Value} {p : List Lit} (h : intL v = some p) : ∃ n, v = .int .i64 n ∧ (Lit.int .i64 n).wf = true := by
  unfold intL at h
  cases v <;> simp at h
  obtain ⟨⟨rfl, h2⟩, _⟩ := h
  exact ⟨_, rfl, h2⟩
theorem strL_mk {a : ByteArray} (h : a.size ≤ maxLen) : strL (.string a) = some [.string a.data.toList] := if_pos h
theorem intL_mk {n : Int} (h : (Lit.int .i64 n).wf = true) : intL (.int .i64 n) = some [.int .i64 n] := if_pos ⟨rfl, h⟩

theorem lit_str (v : Value) (d : Nat) : Tryz.prog.keyLits (d + 1) 9 [v] = strL v := by
  unfold Program.keyLits
  rw [Tryz.underlying9]
  cases v <;> rfl
theorem lit_int (v : Value) (d : Nat) : Tryz.prog.keyLits (d + 1) 3 [v] = intL v := by
  unfold Program.keyLits
  rw [Tryz.underlying3]
  cases v <;> rfl
theorem many_types : ∃ d, Tryz.prog.types.size + 1 = d + 2 := ⟨Tryz.prog.types.size - 1, by have h : (0 : Nat) < Tryz.prog.types.size := of_decide_eq_true (by kernel_rfl); omega⟩


theorem sj_lits (x y z : Value) (d : Nat) : Tryz.prog.keyLits (d + 2) 77 [x, y, z] = (intL x).bind fun p => (intL y).bind fun q => (intL z).map fun r => p ++ (q ++ r) := by
  have hc : Tryz.prog.cellsOf 77 = 3 := by kernel_rfl
  have hs : Tryz.prog.cellsOf 3 = 1 := by kernel_rfl
  unfold Program.keyLits
  rw [Tryz.underlying77]
  simp only [List.length_cons, List.length_nil, hc]
  simp [hs, lit_int]
  cases intL x <;> cases intL y <;> cases intL z <;> simp
theorem sj_formed (x y z : Value) : (Value.agg #[x, y, z]).formed Tryz.prog 77 = true := by
  have hc : Tryz.prog.cellsOf 77 = 3 := by kernel_rfl
  simp [Value.formed, Tryz.underlying77, hc]
set_option maxRecDepth 100000 in
def sjK : KeyE Tryz.prog (Int × Int × Int) where
  ty := 77
  law := Keyed.of_law (deep_law_laid (show laidOutB Tryz.prog = true by kernel_rfl) (m := 2) (by omega) (of_decide_eq_true (by kernel_rfl)) (by kernel_rfl) (by rw [Tryz.underlying77]))
  val := fun x => .agg #[.int .i64 x.1, .int .i64 x.2.1, .int .i64 x.2.2]
  lit := fun x => .string (keyBytes [.int .i64 x.1, .int .i64 x.2.1, .int .i64 x.2.2])
  ok := fun x => (Lit.int .i64 x.1).wf = true ∧ (Lit.int .i64 x.2.1).wf = true ∧ (Lit.int .i64 x.2.2).wf = true
  key := fun x hx => by
    obtain ⟨d, hd⟩ := many_types
    unfold keyOf
    rw [Tryz.underlying77]
    have h1 : Tryz.prog.keyType 77 = true := by kernel_rfl
    simp only [h1, sj_formed, Bool.and_self, if_true, hd]
    show Option.map _ (Tryz.prog.keyLits (d + 2) _ [.int .i64 x.1, .int .i64 x.2.1, .int .i64 x.2.2]) = _
    rw [sj_lits, intL_mk hx.1, intL_mk hx.2.1, intL_mk hx.2.2]
    rfl
  inv := fun v l hv => by
    obtain ⟨d, hd⟩ := many_types
    have hc : Tryz.prog.cellsOf 77 = 3 := by kernel_rfl
    unfold keyOf at hv
    rw [Tryz.underlying77] at hv
    simp only [hd] at hv
    split at hv
    · rename_i hf
      have hf2 := (Bool.and_eq_true _ _ ▸ hf).2
      cases v with
      | agg cs =>
        simp [Value.formed, Tryz.underlying77, hc] at hf2
        obtain ⟨cl⟩ := cs
        have h2 : cl.length = 3 := hf2
        match cl, h2 with
        | [x, y, z], _ =>
          change Option.map _ (Tryz.prog.keyLits (d + 2) _ [x, y, z]) = _ at hv
          rw [sj_lits] at hv
          cases h3 : intL x with
          | none => rw [h3] at hv; cases hv
          | some p =>
            cases h4 : intL y with
            | none => rw [h3, h4] at hv; cases hv
            | some q =>
              cases h5 : intL z with
              | none => rw [h3, h4, h5] at hv; cases hv
              | some r =>
                obtain ⟨a, rfl, ha⟩ := intL_inv h3
                obtain ⟨b, rfl, hb⟩ := intL_inv h4
                obtain ⟨c, rfl, hc⟩ := intL_inv h5
                exact ⟨(a, b, c), ⟨ha, hb, hc⟩, rfl⟩
      | _ => simp [Value.formed, Tryz.underlying77] at hf2
    · cases hv
  inj := fun x y e => by
    obtain ⟨a, b, c⟩ := x
    obtain ⟨p, q, r⟩ := y
    simp at e
    obtain ⟨rfl, rfl, rfl⟩ := e
    rfl

end Go.Proofs.YtahebgceoidebaaGreat

/- Records: what the program's WordOk hands back, the rights of its five kinds of records, and records told apart and back. -/
namespace Go.Proofs.YtahebgceoidebaaGreat
open Go.RowKit

set_option maxRecDepth 100000 in
set_option maxHeartbeats 1000000 in
theorem implWordOk_any (s : ByteArray) (w : World) :
    Calls Tryz.prog 139 #[.string s] w fun e w' => e = .returned (.bool (decide (wdOk s))) ∧ Below w.heap.size w w' := by
  by_cases hin : 1 ≤ s.size ∧ s.size ≤ 8
  · obtain ⟨hin1, hin2⟩ := hin
    have h1 : ¬ (s.size : Int) < 1 := by omega
    have h2 : ¬ (8 : Int) < (s.size : Int) := by omega
    have hconv : ∀ wx, (convert 9 22 (.string s)).run Tryz.prog wx = .ok (.slice (some ⟨wx.heap.size, 0, none⟩) s.size (grownCap wx s.size 0 5)) (Lib.bytesWorld wx 5 s) :=
      fun wx => Lib.run_convert_string_bytes (P := Tryz.prog) wx 9 22 5 s Tryz.underlying9 Tryz.underlying22 Tryz.underlying5
    have hbel : Below w.heap.size w (Lib.bytesWorld w 5 s) :=
      (Below.refl _ _).grown (⟨rfl, rfl, rfl, by rw [Lib.bytesWorld_size]; omega, fun k hk _ => Lib.bytesWorld_at_old w 5 s k hk⟩ : w.grownBy (Lib.bytesWorld w 5 s) none) (Nat.le_refl _) (fun k hk => by cases hk)
    obtain ⟨o, ho1, ho2⟩ := bytes_block w s
    have hcells := ho2 _ ho1
    go_enter Tryz.func139, Tryz.ntmps139
    go_wp2
    clear hconv ho1 ho2
    generalize hbw : Lib.bytesWorld w 5 s = w2 at *
    clear hbw
    go_loop [16] (fun iv => ∃ i : Nat, i ≤ s.size ∧ iv = .int .i64 (i : Int) ∧ ∀ j (hj : j < s.size), j < i → 97 ≤ s[j].toNat ∧ s[j].toNat ≤ 122) (fun iv => s.size - (intOf iv).toNat)
    case atStart => exact ⟨0, by omega, rfl, fun j _ hj => by omega⟩
    case round =>
      obtain ⟨i, hi, rfl, hall⟩ := hrel
      have HA := Lib.hid hall
      clear hall
      by_cases hlt : i < s.size
      · have hlt' : (i : Int) < (s.size : Int) := by omega
        have hcell := hcells i hlt
        have HB : Hid (¬ (97 ≤ s[i].toNat ∧ s[i].toNat ≤ 122) → decide (wdOk s) = false) := fun h => decide_eq_false (fun hw => h (hw.2 _ (by
          show s.data[i] ∈ s.data.toList
          exact Array.getElem_mem_toList _)))
        have HN : Hid (97 ≤ s[i].toNat ∧ s[i].toNat ≤ 122 → ∀ j (hj : j < s.size), j < i + 1 → 97 ≤ s[j].toNat ∧ s[j].toNat ≤ 122) := by
          intro h j hj hji
          by_cases e : j = i
          · subst e; exact h
          · exact HA.out j hj (by omega)
        clear hcells
        generalize s[i].toNat = c at hcell HB HN
        by_cases q1 : c < 97
        · have q1' : (c : Int) < 97 := by omega
          go_wp2
          go_ret
          exact ⟨by rw [HB.out (by omega)]; rfl, hbel⟩
        · have q1' : ¬ (c : Int) < 97 := by omega
          by_cases q2 : 122 < c
          · have q2' : (122 : Int) < (c : Int) := by omega
            go_wp2
            go_ret
            exact ⟨by rw [HB.out (by omega)]; rfl, hbel⟩
          · have q2' : ¬ (122 : Int) < (c : Int) := by omega
            go_wp2
            go_round
            case rel => exact ⟨i + 1, by omega, by go_num, HN.out ⟨by omega, by omega⟩⟩
            case measure => simp [intOf]; omega
      · have hge : ¬ (i : Int) < (s.size : Int) := by omega
        have HE : Hid (decide (wdOk s) = true) := show _ = _ from decide_eq_true ⟨⟨hin1, hin2⟩, fun b hb => by
          obtain ⟨j, hj, rfl⟩ := List.getElem_of_mem hb
          have hj2 : j < s.size := by rw [← tl_len]; exact hj
          exact HA.out j hj2 (by omega)⟩
        clear hcells
        go_wp2
        go_ret
        exact ⟨by rw [HE.out]; rfl, hbel⟩
  · have hd : Hid (decide (wdOk s) = false) := show _ = _ from decide_eq_false (fun h => hin h.1)
    by_cases h1 : (s.size : Int) < 1
    · go_enter Tryz.func139, Tryz.ntmps139
      go_wp2
      go_ret
      exact ⟨by rw [hd.out]; rfl, Below.refl _ _⟩
    · have h2 : (8 : Int) < (s.size : Int) := by omega
      go_enter Tryz.func139, Tryz.ntmps139
      go_wp2
      go_ret
      exact ⟨by rw [hd.out]; rfl, Below.refl _ _⟩

theorem validOk_yes (n : Int) (w : World) (h1 : 1 ≤ n) (h2 : n ≤ 9999) : Calls Tryz.prog 137 #[.int .i64 n] w fun e w' => e = .returned (.bool true) ∧ w = w' := by
  go_enter Tryz.func137, Tryz.ntmps137
  go_wp2
  go_ret
  simp
theorem validOk_no (n : Int) (w : World) (h : ¬ (1 ≤ n ∧ n ≤ 9999)) : Calls Tryz.prog 137 #[.int .i64 n] w fun e w' => e = .returned (.bool false) ∧ w = w' := by
  by_cases h1 : 1 ≤ n
  · have h2 : ¬ n ≤ 9999 := fun h2 => h ⟨h1, h2⟩
    go_enter Tryz.func137, Tryz.ntmps137
    go_wp2
    go_ret
    simp
  · go_enter Tryz.func137, Tryz.ntmps137
    go_wp2
    go_ret
    simp
theorem flagsOk_any (n : Int) (w : World) : Calls Tryz.prog 142 #[.int .i64 n] w fun e w' => e = .returned (.bool (decide (0 ≤ n ∧ n ≤ 7))) ∧ w = w' := by
  by_cases h1 : 0 ≤ n
  · have e : decide (0 ≤ n ∧ n ≤ 7) = decide (n ≤ 7) := by simp [h1]
    rw [e]
    go_enter Tryz.func142, Tryz.ntmps142
    go_wp2
    go_ret
    simp
  · have e : decide (0 ≤ n ∧ n ≤ 7) = false := by simp [h1]
    rw [e]
    go_enter Tryz.func142, Tryz.ntmps142
    go_wp2
    go_ret
    simp

/-- What the five kinds of records ask for. -/
def bxP (v n : Int) (u m : ByteArray) : Prop := (1 ≤ v ∧ v ≤ 9999) ∧ (1 ≤ n ∧ n ≤ 10000) ∧ wdOk u ∧ wdOk m
instance (v n : Int) (u m : ByteArray) : Decidable (bxP v n u m) := by unfold bxP; infer_instance
def adP (v u f : Int) (t : ByteArray) : Prop := (1 ≤ v ∧ v ≤ 9999) ∧ (1 ≤ u ∧ u ≤ 9999) ∧ (0 ≤ f ∧ f ≤ 7) ∧ t.size ≤ 100
instance (v u f : Int) (t : ByteArray) : Decidable (adP v u f t) := by unfold adP; infer_instance
def flP (v u f : Int) : Prop := (1 ≤ v ∧ v ≤ 9999) ∧ (1 ≤ u ∧ u ≤ 9999) ∧ (0 ≤ f ∧ f ≤ 7)
instance (v u f : Int) : Decidable (flP v u f) := by unfold flP; infer_instance
def goP (v u : Int) : Prop := (1 ≤ v ∧ v ≤ 9999) ∧ (1 ≤ u ∧ u ≤ 9999)
instance (v u : Int) : Decidable (goP v u) := by unfold goP; infer_instance

theorem nextOk_any (n : Int) (w : World) : Calls Tryz.prog 138 #[.int .i64 n] w fun e w' => e = .returned (.bool (decide (1 ≤ n ∧ n ≤ 10000))) ∧ w = w' := by
  by_cases h1 : 1 ≤ n
  · have e : decide (1 ≤ n ∧ n ≤ 10000) = decide (n ≤ 10000) := by simp [h1]
    rw [e]
    go_enter Tryz.func138, Tryz.ntmps138
    go_wp2
    go_ret
    simp
  · have e : decide (1 ≤ n ∧ n ≤ 10000) = false := by simp [h1]
    rw [e]
    go_enter Tryz.func138, Tryz.ntmps138
    go_wp2
    go_ret
    simp
theorem nextOk_yes (n : Int) (w : World) (h1 : 1 ≤ n) (h2 : n ≤ 10000) : Calls Tryz.prog 138 #[.int .i64 n] w fun e w' => e = .returned (.bool true) ∧ w = w' := by
  have h := nextOk_any n w
  rwa [decide_eq_true (show 1 ≤ n ∧ n ≤ 10000 from ⟨h1, h2⟩)] at h
theorem nextOk_no (n : Int) (w : World) (h1 : ¬ (1 ≤ n ∧ n ≤ 10000)) : Calls Tryz.prog 138 #[.int .i64 n] w fun e w' => e = .returned (.bool false) ∧ w = w' := by
  have h := nextOk_any n w
  rwa [decide_eq_false h1] at h

set_option maxRecDepth 100000 in
set_option maxHeartbeats 1000000 in
theorem boxRight_any (v n : Int) (u m : ByteArray) (w : World) :
    Calls Tryz.prog 136 #[.agg #[.int .i64 v, .int .i64 n, .string u, .string m]] w fun e w' => e = .returned (.bool (decide (bxP v n u m))) ∧ Below w.heap.size w w' := by
  have bx := Box.new w #[.int .i64 v, .int .i64 n, .string u, .string m] 128
  have b0 : Below w.heap.size w (w.alloc (.cells #[.int .i64 v, .int .i64 n, .string u, .string m] 128)) := (Below.refl _ _).alloc (Nat.le_refl _) _
  have c0 := bx.cell 0 _ rfl
  have c1 := bx.cell 1 _ rfl
  have c2 := bx.cell 2 _ rfl
  have c3 := bx.cell 3 _ rfl
  have BX := Lib.hid bx
  clear bx
  by_cases hv : 1 ≤ v ∧ v ≤ 9999
  · by_cases hn : 1 ≤ n ∧ n ≤ 10000
    · by_cases hu : wdOk u
      · have HE : Hid (decide (bxP v n u m) = decide (wdOk m)) := show _ = _ from decide_eq_decide.2 ⟨fun h => h.2.2.2, fun h => ⟨hv, hn, hu, h⟩⟩
        have HU : Hid (decide (wdOk u) = true) := show _ = _ from decide_eq_true hu
        have HV := Lib.hid hv
        have HN := Lib.hid hn
        clear hu hv hn
        go_enter Tryz.func136, Tryz.ntmps136
        go_wp2_with (first | (go_at_call 137; refine (validOk_yes _ _ HV.out.1 HV.out.2).mono ?_; rintro e w5 ⟨rfl, rfl⟩) | (go_at_call 138; refine (nextOk_yes _ _ HN.out.1 HN.out.2).mono ?_; rintro e w5 ⟨rfl, rfl⟩) | (go_at_call 139; refine (implWordOk_any _ _).mono ?_; rintro e w5 ⟨rfl, hb5⟩; rw [HU.out]; have c3' := (BX.out.later hb5).cell 3 _ rfl) | (go_at_call 139; refine (implWordOk_any _ _).mono ?_; rintro e w6 ⟨rfl, hb6⟩))
        go_ret
        exact ⟨by rw [HE.out]; rfl, (b0.trans (hb5.mono b0.size)).trans (hb6.mono ((b0.trans (hb5.mono b0.size)).size))⟩
      · have HE : Hid (decide (bxP v n u m) = false) := show _ = _ from decide_eq_false fun h => hu h.2.2.1
        have HU : Hid (decide (wdOk u) = false) := show _ = _ from decide_eq_false hu
        have HV := Lib.hid hv
        have HN := Lib.hid hn
        clear hu hv hn
        go_enter Tryz.func136, Tryz.ntmps136
        go_wp2_with (first | (go_at_call 137; refine (validOk_yes _ _ HV.out.1 HV.out.2).mono ?_; rintro e w5 ⟨rfl, rfl⟩) | (go_at_call 138; refine (nextOk_yes _ _ HN.out.1 HN.out.2).mono ?_; rintro e w5 ⟨rfl, rfl⟩) | (go_at_call 139; refine (implWordOk_any _ _).mono ?_; rintro e w5 ⟨rfl, hb5⟩; rw [HU.out]))
        go_ret
        exact ⟨by rw [HE.out]; rfl, b0.trans (hb5.mono b0.size)⟩
    · have HE : Hid (decide (bxP v n u m) = false) := show _ = _ from decide_eq_false fun h => hn h.2.1
      have HV := Lib.hid hv
      have HN := Lib.hid hn
      clear hv hn
      go_enter Tryz.func136, Tryz.ntmps136
      go_wp2_with (first | (go_at_call 137; refine (validOk_yes _ _ HV.out.1 HV.out.2).mono ?_; rintro e w5 ⟨rfl, rfl⟩) | (go_at_call 138; refine (nextOk_no _ _ HN.out).mono ?_; rintro e w5 ⟨rfl, rfl⟩))
      go_ret
      exact ⟨by rw [HE.out]; rfl, b0⟩
  · have HE : Hid (decide (bxP v n u m) = false) := show _ = _ from decide_eq_false fun h => hv h.1
    have HV := Lib.hid hv
    clear hv
    go_enter Tryz.func136, Tryz.ntmps136
    go_wp2_with (go_at_call 137; refine (validOk_no _ _ HV.out).mono ?_; rintro e w5 ⟨rfl, rfl⟩)
    go_ret
    exact ⟨by rw [HE.out]; rfl, b0⟩

set_option maxRecDepth 100000 in
set_option maxHeartbeats 1000000 in
theorem dropRight_any (v : Int) (w : World) :
    Calls Tryz.prog 140 #[.agg #[.int .i64 v]] w fun e w' => e = .returned (.bool (decide (1 ≤ v ∧ v ≤ 9999))) ∧ Below w.heap.size w w' := by
  have bx := Box.new w #[.int .i64 v] 130
  have b0 : Below w.heap.size w (w.alloc (.cells #[.int .i64 v] 130)) := (Below.refl _ _).alloc (Nat.le_refl _) _
  have c0 := bx.cell 0 _ rfl
  clear bx
  by_cases hv : 1 ≤ v ∧ v ≤ 9999
  · rw [decide_eq_true hv]
    go_enter Tryz.func140, Tryz.ntmps140
    go_wp2_with (go_at_call 137; first | (refine (validOk_yes _ _ (by omega) (by omega)).mono ?_; rintro e w5 ⟨rfl, rfl⟩) | (refine (validOk_no _ _ (by omega)).mono ?_; rintro e w5 ⟨rfl, rfl⟩))
    go_ret
    exact ⟨rfl, b0⟩
  · rw [decide_eq_false hv]
    go_enter Tryz.func140, Tryz.ntmps140
    go_wp2_with (go_at_call 137; first | (refine (validOk_yes _ _ (by omega) (by omega)).mono ?_; rintro e w5 ⟨rfl, rfl⟩) | (refine (validOk_no _ _ (by omega)).mono ?_; rintro e w5 ⟨rfl, rfl⟩))
    go_ret
    exact ⟨rfl, b0⟩

set_option maxRecDepth 100000 in
set_option maxHeartbeats 1000000 in
theorem goneRight_any (v u : Int) (w : World) :
    Calls Tryz.prog 144 #[.agg #[.int .i64 v, .int .i64 u]] w fun e w' => e = .returned (.bool (decide (goP v u))) ∧ Below w.heap.size w w' := by
  have bx := Box.new w #[.int .i64 v, .int .i64 u] 136
  have b0 : Below w.heap.size w (w.alloc (.cells #[.int .i64 v, .int .i64 u] 136)) := (Below.refl _ _).alloc (Nat.le_refl _) _
  have c0 := bx.cell 0 _ rfl
  have c1 := bx.cell 1 _ rfl
  clear bx
  by_cases hv : 1 ≤ v ∧ v ≤ 9999
  · by_cases hu : 1 ≤ u ∧ u ≤ 9999
    · rw [decide_eq_true (show goP v u from ⟨hv, hu⟩)]
      go_enter Tryz.func144, Tryz.ntmps144
      go_wp2_with (go_at_call 137; first | (refine (validOk_yes _ _ (by omega) (by omega)).mono ?_; rintro e w5 ⟨rfl, rfl⟩) | (refine (validOk_no _ _ (by omega)).mono ?_; rintro e w5 ⟨rfl, rfl⟩))
      go_ret
      exact ⟨rfl, b0⟩
    · rw [decide_eq_false (show ¬ goP v u from fun h => hu h.2)]
      go_enter Tryz.func144, Tryz.ntmps144
      go_wp2_with (go_at_call 137; first | (refine (validOk_yes _ _ (by omega) (by omega)).mono ?_; rintro e w5 ⟨rfl, rfl⟩) | (refine (validOk_no _ _ (by omega)).mono ?_; rintro e w5 ⟨rfl, rfl⟩))
      go_ret
      exact ⟨rfl, b0⟩
  · rw [decide_eq_false (show ¬ goP v u from fun h => hv h.1)]
    go_enter Tryz.func144, Tryz.ntmps144
    go_wp2_with (go_at_call 137; first | (refine (validOk_yes _ _ (by omega) (by omega)).mono ?_; rintro e w5 ⟨rfl, rfl⟩) | (refine (validOk_no _ _ (by omega)).mono ?_; rintro e w5 ⟨rfl, rfl⟩))
    go_ret
    exact ⟨rfl, b0⟩

set_option maxRecDepth 100000 in
set_option maxHeartbeats 1000000 in
theorem flagRight_any (v u f : Int) (w : World) :
    Calls Tryz.prog 143 #[.agg #[.int .i64 v, .int .i64 u, .int .i64 f]] w fun e w' => e = .returned (.bool (decide (flP v u f))) ∧ Below w.heap.size w w' := by
  have bx := Box.new w #[.int .i64 v, .int .i64 u, .int .i64 f] 134
  have b0 : Below w.heap.size w (w.alloc (.cells #[.int .i64 v, .int .i64 u, .int .i64 f] 134)) := (Below.refl _ _).alloc (Nat.le_refl _) _
  have c0 := bx.cell 0 _ rfl
  have c1 := bx.cell 1 _ rfl
  have c2 := bx.cell 2 _ rfl
  clear bx
  by_cases hv : 1 ≤ v ∧ v ≤ 9999
  · by_cases hu : 1 ≤ u ∧ u ≤ 9999
    · have HF : Hid (decide (0 ≤ f ∧ f ≤ 7) = decide (flP v u f)) := show _ = _ from decide_eq_decide.2 ⟨fun h => ⟨hv, hu, h⟩, fun h => h.2.2⟩
      go_enter Tryz.func143, Tryz.ntmps143
      go_wp2_with (first | (go_at_call 137; first | (refine (validOk_yes _ _ (by omega) (by omega)).mono ?_; rintro e w5 ⟨rfl, rfl⟩) | (refine (validOk_no _ _ (by omega)).mono ?_; rintro e w5 ⟨rfl, rfl⟩)) | (go_at_call 142; refine (flagsOk_any _ _).mono ?_; rintro e w5 ⟨rfl, rfl⟩; try rw [HF.out]))
      go_ret
      exact ⟨rfl, b0⟩
    · rw [decide_eq_false (show ¬ flP v u f from fun h => hu h.2.1)]
      go_enter Tryz.func143, Tryz.ntmps143
      go_wp2_with (go_at_call 137; first | (refine (validOk_yes _ _ (by omega) (by omega)).mono ?_; rintro e w5 ⟨rfl, rfl⟩) | (refine (validOk_no _ _ (by omega)).mono ?_; rintro e w5 ⟨rfl, rfl⟩))
      go_ret
      exact ⟨rfl, b0⟩
  · rw [decide_eq_false (show ¬ flP v u f from fun h => hv h.1)]
    go_enter Tryz.func143, Tryz.ntmps143
    go_wp2_with (go_at_call 137; first | (refine (validOk_yes _ _ (by omega) (by omega)).mono ?_; rintro e w5 ⟨rfl, rfl⟩) | (refine (validOk_no _ _ (by omega)).mono ?_; rintro e w5 ⟨rfl, rfl⟩))
    go_ret
    exact ⟨rfl, b0⟩

set_option maxRecDepth 100000 in
set_option maxHeartbeats 1000000 in
theorem addRight_any (v u f : Int) (t : ByteArray) (w : World) :
    Calls Tryz.prog 141 #[.agg #[.int .i64 v, .int .i64 u, .int .i64 f, .string t]] w fun e w' => e = .returned (.bool (decide (adP v u f t))) ∧ Below w.heap.size w w' := by
  have bx := Box.new w #[.int .i64 v, .int .i64 u, .int .i64 f, .string t] 132
  have b0 : Below w.heap.size w (w.alloc (.cells #[.int .i64 v, .int .i64 u, .int .i64 f, .string t] 132)) := (Below.refl _ _).alloc (Nat.le_refl _) _
  have c0 := bx.cell 0 _ rfl
  have c1 := bx.cell 1 _ rfl
  have c2 := bx.cell 2 _ rfl
  have c3 := bx.cell 3 _ rfl
  clear bx
  by_cases hv : 1 ≤ v ∧ v ≤ 9999
  · by_cases hu : 1 ≤ u ∧ u ≤ 9999
    · by_cases hf : 0 ≤ f ∧ f ≤ 7
      · have HF : Hid (decide (0 ≤ f ∧ f ≤ 7) = true) := show _ = _ from decide_eq_true hf
        have HE : Hid (decide (adP v u f t) = decide ((t.size : Int) ≤ 100)) := show _ = _ from decide_eq_decide.2 ⟨fun h => by have := h.2.2.2; omega, fun h => ⟨hv, hu, hf, by omega⟩⟩
        clear hf
        go_enter Tryz.func141, Tryz.ntmps141
        go_wp2_with (first | (go_at_call 137; first | (refine (validOk_yes _ _ (by omega) (by omega)).mono ?_; rintro e w5 ⟨rfl, rfl⟩) | (refine (validOk_no _ _ (by omega)).mono ?_; rintro e w5 ⟨rfl, rfl⟩)) | (go_at_call 142; refine (flagsOk_any _ _).mono ?_; rintro e w5 ⟨rfl, rfl⟩; try rw [HF.out]))
        go_ret
        exact ⟨by rw [HE.out]; rfl, b0⟩
      · have HF : Hid (decide (0 ≤ f ∧ f ≤ 7) = false) := show _ = _ from decide_eq_false hf
        rw [decide_eq_false (show ¬ adP v u f t from fun h => hf h.2.2.1)]
        clear hf
        go_enter Tryz.func141, Tryz.ntmps141
        go_wp2_with (first | (go_at_call 137; first | (refine (validOk_yes _ _ (by omega) (by omega)).mono ?_; rintro e w5 ⟨rfl, rfl⟩) | (refine (validOk_no _ _ (by omega)).mono ?_; rintro e w5 ⟨rfl, rfl⟩)) | (go_at_call 142; refine (flagsOk_any _ _).mono ?_; rintro e w5 ⟨rfl, rfl⟩; try rw [HF.out]))
        go_ret
        exact ⟨rfl, b0⟩
    · rw [decide_eq_false (show ¬ adP v u f t from fun h => hu h.2.1)]
      go_enter Tryz.func141, Tryz.ntmps141
      go_wp2_with (go_at_call 137; first | (refine (validOk_yes _ _ (by omega) (by omega)).mono ?_; rintro e w5 ⟨rfl, rfl⟩) | (refine (validOk_no _ _ (by omega)).mono ?_; rintro e w5 ⟨rfl, rfl⟩))
      go_ret
      exact ⟨rfl, b0⟩
  · rw [decide_eq_false (show ¬ adP v u f t from fun h => hv h.1)]
    go_enter Tryz.func141, Tryz.ntmps141
    go_wp2_with (go_at_call 137; first | (refine (validOk_yes _ _ (by omega) (by omega)).mono ?_; rintro e w5 ⟨rfl, rfl⟩) | (refine (validOk_no _ _ (by omega)).mono ?_; rintro e w5 ⟨rfl, rfl⟩))
    go_ret
    exact ⟨rfl, b0⟩

set_option maxRecDepth 100000 in
set_option maxHeartbeats 1000000 in
theorem recordOf_1 (r : Rc) (w : World) (hk : r.kind = 1) :
    Calls Tryz.prog 77 #[r.v] w fun e w' => e = .returned (.tuple #[.iface 128 (.agg #[.int .i64 r.valid, .int .i64 r.next, .string r.user, .string r.name]), .bool true]) ∧ Below w.heap.size w w' := by
  obtain ⟨c0, c1, c2, c3, c4, c5, c6, c7⟩ := (Box.new w r.cs 47).rec
  have b0 : Below w.heap.size w (w.alloc (.cells r.cs 47)) := (Below.refl _ _).alloc (Nat.le_refl _) _
  have k1 : (r.kind == 1) = true := by rw [hk]; rfl
  clear hk
  unfold Rc.v
  unfold Rc.cs at *
  go_enter Tryz.func77, Tryz.ntmps77
  go_wp2
  go_ret2
  exact ⟨rfl, b0⟩

set_option maxRecDepth 100000 in
set_option maxHeartbeats 1000000 in
theorem recordOf_2 (r : Rc) (w : World) (hk : r.kind = 2) :
    Calls Tryz.prog 77 #[r.v] w fun e w' => e = .returned (.tuple #[.iface 130 (.agg #[.int .i64 r.valid]), .bool true]) ∧ Below w.heap.size w w' := by
  obtain ⟨c0, c1, c2, c3, c4, c5, c6, c7⟩ := (Box.new w r.cs 47).rec
  have b0 : Below w.heap.size w (w.alloc (.cells r.cs 47)) := (Below.refl _ _).alloc (Nat.le_refl _) _
  have k1 : (r.kind == 1) = false := by rw [hk]; rfl
  have k2 : (r.kind == 2) = true := by rw [hk]; rfl
  clear hk
  unfold Rc.v
  unfold Rc.cs at *
  go_enter Tryz.func77, Tryz.ntmps77
  go_wp2
  go_ret2
  exact ⟨rfl, b0⟩

set_option maxRecDepth 100000 in
set_option maxHeartbeats 1000000 in
theorem recordOf_3 (r : Rc) (w : World) (hk : r.kind = 3) :
    Calls Tryz.prog 77 #[r.v] w fun e w' => e = .returned (.tuple #[.iface 132 (.agg #[.int .i64 r.valid, .int .i64 r.uid, .int .i64 r.flags, .string r.text]), .bool true]) ∧ Below w.heap.size w w' := by
  obtain ⟨c0, c1, c2, c3, c4, c5, c6, c7⟩ := (Box.new w r.cs 47).rec
  have b0 : Below w.heap.size w (w.alloc (.cells r.cs 47)) := (Below.refl _ _).alloc (Nat.le_refl _) _
  have k1 : (r.kind == 1) = false := by rw [hk]; rfl
  have k2 : (r.kind == 2) = false := by rw [hk]; rfl
  have k3 : (r.kind == 3) = true := by rw [hk]; rfl
  clear hk
  unfold Rc.v
  unfold Rc.cs at *
  go_enter Tryz.func77, Tryz.ntmps77
  go_wp2
  go_ret2
  exact ⟨rfl, b0⟩

set_option maxRecDepth 100000 in
set_option maxHeartbeats 1000000 in
theorem recordOf_4 (r : Rc) (w : World) (hk : r.kind = 4) :
    Calls Tryz.prog 77 #[r.v] w fun e w' => e = .returned (.tuple #[.iface 134 (.agg #[.int .i64 r.valid, .int .i64 r.uid, .int .i64 r.flags]), .bool true]) ∧ Below w.heap.size w w' := by
  obtain ⟨c0, c1, c2, c3, c4, c5, c6, c7⟩ := (Box.new w r.cs 47).rec
  have b0 : Below w.heap.size w (w.alloc (.cells r.cs 47)) := (Below.refl _ _).alloc (Nat.le_refl _) _
  have k1 : (r.kind == 1) = false := by rw [hk]; rfl
  have k2 : (r.kind == 2) = false := by rw [hk]; rfl
  have k3 : (r.kind == 3) = false := by rw [hk]; rfl
  have k4 : (r.kind == 4) = true := by rw [hk]; rfl
  clear hk
  unfold Rc.v
  unfold Rc.cs at *
  go_enter Tryz.func77, Tryz.ntmps77
  go_wp2
  go_ret2
  exact ⟨rfl, b0⟩

set_option maxRecDepth 100000 in
set_option maxHeartbeats 1000000 in
theorem recordOf_5 (r : Rc) (w : World) (hk : r.kind = 5) :
    Calls Tryz.prog 77 #[r.v] w fun e w' => e = .returned (.tuple #[.iface 136 (.agg #[.int .i64 r.valid, .int .i64 r.uid]), .bool true]) ∧ Below w.heap.size w w' := by
  obtain ⟨c0, c1, c2, c3, c4, c5, c6, c7⟩ := (Box.new w r.cs 47).rec
  have b0 : Below w.heap.size w (w.alloc (.cells r.cs 47)) := (Below.refl _ _).alloc (Nat.le_refl _) _
  have k1 : (r.kind == 1) = false := by rw [hk]; rfl
  have k2 : (r.kind == 2) = false := by rw [hk]; rfl
  have k3 : (r.kind == 3) = false := by rw [hk]; rfl
  have k4 : (r.kind == 4) = false := by rw [hk]; rfl
  have k5 : (r.kind == 5) = true := by rw [hk]; rfl
  clear hk
  unfold Rc.v
  unfold Rc.cs at *
  go_enter Tryz.func77, Tryz.ntmps77
  go_wp2
  go_ret2
  exact ⟨rfl, b0⟩

set_option maxRecDepth 100000 in
set_option maxHeartbeats 1000000 in
theorem recordOf_no (r : Rc) (w : World) (hk : ¬ (1 ≤ r.kind ∧ r.kind ≤ 5)) :
    Calls Tryz.prog 77 #[r.v] w fun e w' => e = .returned (.tuple #[.nilIface, .bool false]) ∧ Below w.heap.size w w' := by
  obtain ⟨c0, c1, c2, c3, c4, c5, c6, c7⟩ := (Box.new w r.cs 47).rec
  have b0 : Below w.heap.size w (w.alloc (.cells r.cs 47)) := (Below.refl _ _).alloc (Nat.le_refl _) _
  have k1 : (r.kind == 1) = false := beq_eq_false_iff_ne.2 (by omega)
  have k2 : (r.kind == 2) = false := beq_eq_false_iff_ne.2 (by omega)
  have k3 : (r.kind == 3) = false := beq_eq_false_iff_ne.2 (by omega)
  have k4 : (r.kind == 4) = false := beq_eq_false_iff_ne.2 (by omega)
  have k5 : (r.kind == 5) = false := beq_eq_false_iff_ne.2 (by omega)
  clear hk
  unfold Rc.v
  unfold Rc.cs at *
  go_enter Tryz.func77, Tryz.ntmps77
  go_wp2
  go_ret2
  exact ⟨rfl, b0⟩

end Go.Proofs.YtahebgceoidebaaGreat

/- Records: what the program's recOf tells back. -/
namespace Go.Proofs.YtahebgceoidebaaGreat
open Go.RowKit

set_option maxRecDepth 100000 in
set_option maxHeartbeats 1000000 in
theorem recOf_1 (v n : Int) (u m : ByteArray) (w : World) :
    Calls Tryz.prog 78 #[.iface 128 (.agg #[.int .i64 v, .int .i64 n, .string u, .string m])] w fun e w' => e = .returned (Rc.v ⟨1, v, 0, n, 0, u, m, emp⟩) ∧ Below w.heap.size w w' := by
  have t1 : ∀ wx, (Instr.typeAssert (.iface 128 (.agg #[.int .i64 v, .int .i64 n, .string u, .string m])) 113 128 true).run Tryz.prog wx = .ok (.tuple #[.agg #[.int .i64 v, .int .i64 n, .string u, .string m], .bool true]) wx := fun _ => by kernel_rfl
  go_enter Tryz.func78, Tryz.ntmps78
  go_wp2
  refine bodyPost_ret (v := Rc.v ⟨1, v, 0, n, 0, u, m, emp⟩) (by simp [results, Tryz.results78, go_sem, Rc.v, emp]) rfl ?_
  exact ⟨rfl, ((Below.refl _ _).alloc (Nat.le_refl _) _).alloc (by simp) _⟩

set_option maxRecDepth 100000 in
set_option maxHeartbeats 1000000 in
theorem recOf_2 (v : Int) (w : World) :
    Calls Tryz.prog 78 #[.iface 130 (.agg #[.int .i64 v])] w fun e w' => e = .returned (Rc.v ⟨2, v, 0, 0, 0, emp, emp, emp⟩) ∧ Below w.heap.size w w' := by
  have t1 : ∀ wx, (Instr.typeAssert (.iface 130 (.agg #[.int .i64 v])) 113 128 true).run Tryz.prog wx = .ok (.tuple #[.agg #[.int .i64 0, .int .i64 0, .string ⟨#[]⟩, .string ⟨#[]⟩], .bool false]) wx := fun _ => by kernel_rfl
  have t2 : ∀ wx, (Instr.typeAssert (.iface 130 (.agg #[.int .i64 v])) 113 130 true).run Tryz.prog wx = .ok (.tuple #[.agg #[.int .i64 v], .bool true]) wx := fun _ => by kernel_rfl
  go_enter Tryz.func78, Tryz.ntmps78
  go_wp2
  refine bodyPost_ret (v := Rc.v ⟨2, v, 0, 0, 0, emp, emp, emp⟩) (by simp [results, Tryz.results78, go_sem, Rc.v, emp]) rfl ?_
  exact ⟨rfl, ((Below.refl _ _).alloc (Nat.le_refl _) _).alloc (by simp) _⟩

set_option maxRecDepth 100000 in
set_option maxHeartbeats 1000000 in
theorem recOf_3 (v u f : Int) (t : ByteArray) (w : World) :
    Calls Tryz.prog 78 #[.iface 132 (.agg #[.int .i64 v, .int .i64 u, .int .i64 f, .string t])] w fun e w' => e = .returned (Rc.v ⟨3, v, u, 0, f, emp, emp, t⟩) ∧ Below w.heap.size w w' := by
  have t1 : ∀ wx, (Instr.typeAssert (.iface 132 (.agg #[.int .i64 v, .int .i64 u, .int .i64 f, .string t])) 113 128 true).run Tryz.prog wx = .ok (.tuple #[.agg #[.int .i64 0, .int .i64 0, .string ⟨#[]⟩, .string ⟨#[]⟩], .bool false]) wx := fun _ => by kernel_rfl
  have t2 : ∀ wx, (Instr.typeAssert (.iface 132 (.agg #[.int .i64 v, .int .i64 u, .int .i64 f, .string t])) 113 130 true).run Tryz.prog wx = .ok (.tuple #[.agg #[.int .i64 0], .bool false]) wx := fun _ => by kernel_rfl
  have t3 : ∀ wx, (Instr.typeAssert (.iface 132 (.agg #[.int .i64 v, .int .i64 u, .int .i64 f, .string t])) 113 132 true).run Tryz.prog wx = .ok (.tuple #[.agg #[.int .i64 v, .int .i64 u, .int .i64 f, .string t], .bool true]) wx := fun _ => by kernel_rfl
  go_enter Tryz.func78, Tryz.ntmps78
  go_wp2
  refine bodyPost_ret (v := Rc.v ⟨3, v, u, 0, f, emp, emp, t⟩) (by simp [results, Tryz.results78, go_sem, Rc.v, emp]) rfl ?_
  exact ⟨rfl, ((Below.refl _ _).alloc (Nat.le_refl _) _).alloc (by simp) _⟩

set_option maxRecDepth 100000 in
set_option maxHeartbeats 1000000 in
theorem recOf_4 (v u f : Int) (w : World) :
    Calls Tryz.prog 78 #[.iface 134 (.agg #[.int .i64 v, .int .i64 u, .int .i64 f])] w fun e w' => e = .returned (Rc.v ⟨4, v, u, 0, f, emp, emp, emp⟩) ∧ Below w.heap.size w w' := by
  have t1 : ∀ wx, (Instr.typeAssert (.iface 134 (.agg #[.int .i64 v, .int .i64 u, .int .i64 f])) 113 128 true).run Tryz.prog wx = .ok (.tuple #[.agg #[.int .i64 0, .int .i64 0, .string ⟨#[]⟩, .string ⟨#[]⟩], .bool false]) wx := fun _ => by kernel_rfl
  have t2 : ∀ wx, (Instr.typeAssert (.iface 134 (.agg #[.int .i64 v, .int .i64 u, .int .i64 f])) 113 130 true).run Tryz.prog wx = .ok (.tuple #[.agg #[.int .i64 0], .bool false]) wx := fun _ => by kernel_rfl
  have t3 : ∀ wx, (Instr.typeAssert (.iface 134 (.agg #[.int .i64 v, .int .i64 u, .int .i64 f])) 113 132 true).run Tryz.prog wx = .ok (.tuple #[.agg #[.int .i64 0, .int .i64 0, .int .i64 0, .string ⟨#[]⟩], .bool false]) wx := fun _ => by kernel_rfl
  have t4 : ∀ wx, (Instr.typeAssert (.iface 134 (.agg #[.int .i64 v, .int .i64 u, .int .i64 f])) 113 134 true).run Tryz.prog wx = .ok (.tuple #[.agg #[.int .i64 v, .int .i64 u, .int .i64 f], .bool true]) wx := fun _ => by kernel_rfl
  go_enter Tryz.func78, Tryz.ntmps78
  go_wp2
  refine bodyPost_ret (v := Rc.v ⟨4, v, u, 0, f, emp, emp, emp⟩) (by simp [results, Tryz.results78, go_sem, Rc.v, emp]) rfl ?_
  exact ⟨rfl, ((Below.refl _ _).alloc (Nat.le_refl _) _).alloc (by simp) _⟩

set_option maxRecDepth 100000 in
set_option maxHeartbeats 1000000 in
theorem recOf_5 (v u : Int) (w : World) :
    Calls Tryz.prog 78 #[.iface 136 (.agg #[.int .i64 v, .int .i64 u])] w fun e w' => e = .returned (Rc.v ⟨5, v, u, 0, 0, emp, emp, emp⟩) ∧ Below w.heap.size w w' := by
  have t1 : ∀ wx, (Instr.typeAssert (.iface 136 (.agg #[.int .i64 v, .int .i64 u])) 113 128 true).run Tryz.prog wx = .ok (.tuple #[.agg #[.int .i64 0, .int .i64 0, .string ⟨#[]⟩, .string ⟨#[]⟩], .bool false]) wx := fun _ => by kernel_rfl
  have t2 : ∀ wx, (Instr.typeAssert (.iface 136 (.agg #[.int .i64 v, .int .i64 u])) 113 130 true).run Tryz.prog wx = .ok (.tuple #[.agg #[.int .i64 0], .bool false]) wx := fun _ => by kernel_rfl
  have t3 : ∀ wx, (Instr.typeAssert (.iface 136 (.agg #[.int .i64 v, .int .i64 u])) 113 132 true).run Tryz.prog wx = .ok (.tuple #[.agg #[.int .i64 0, .int .i64 0, .int .i64 0, .string ⟨#[]⟩], .bool false]) wx := fun _ => by kernel_rfl
  have t4 : ∀ wx, (Instr.typeAssert (.iface 136 (.agg #[.int .i64 v, .int .i64 u])) 113 134 true).run Tryz.prog wx = .ok (.tuple #[.agg #[.int .i64 0, .int .i64 0, .int .i64 0], .bool false]) wx := fun _ => by kernel_rfl
  have t5 : ∀ wx, (Instr.typeAssert (.iface 136 (.agg #[.int .i64 v, .int .i64 u])) 113 136 true).run Tryz.prog wx = .ok (.tuple #[.agg #[.int .i64 v, .int .i64 u], .bool true]) wx := fun _ => by kernel_rfl
  go_enter Tryz.func78, Tryz.ntmps78
  go_wp2
  refine bodyPost_ret (v := Rc.v ⟨5, v, u, 0, 0, emp, emp, emp⟩) (by simp [results, Tryz.results78, go_sem, Rc.v, emp]) rfl ?_
  exact ⟨rfl, ((Below.refl _ _).alloc (Nat.le_refl _) _).alloc (by simp) _⟩

instance decRcEq (a b : Rc) : Decidable (a = b) :=
  decidable_of_iff (a.kind = b.kind ∧ a.valid = b.valid ∧ a.uid = b.uid ∧ a.next = b.next ∧ a.flags = b.flags ∧ a.user = b.user ∧ a.name = b.name ∧ a.text = b.text) (by
    obtain ⟨a0, a1, a2, a3, a4, a5, a6, a7⟩ := a
    obtain ⟨b0, b1, b2, b3, b4, b5, b6, b7⟩ := b
    simp)

theorem rec_fields : Tryz.prog.underlying 47 = some (.struct (Tryz.prog.fieldsOf 47)) := by kernel_rfl

theorem ba_inj (a b : ByteArray) : a.toList = b.toList ↔ a = b := by
  have h := ba_beq a b
  constructor
  · intro e
    rw [beq_iff_eq.2 e] at h
    exact of_decide_eq_true h.symm
  · intro e; rw [e]

set_option maxRecDepth 100000 in
theorem run_rec_equal (a b : Rc) (w : World) : (Op.equalIn 10000 47 a.v b.v).run Tryz.prog w = .ok (decide (a = b)) w := by
  unfold Rc.v
  rw [run_equalIn_agg _ 9999 _ _ _ rec_fields (by kernel_rfl)]
  obtain ⟨a0, a1, a2, a3, a4, a5, a6, a7⟩ := a
  obtain ⟨b0, b1, b2, b3, b4, b5, b6, b7⟩ := b
  simp [go_sem, Op.eqFields, Tryz.underlying47, Program.fieldsOf]
  simp only [ba_inj]
  by_cases h0 : a0 = b0 <;> by_cases h1 : a1 = b1 <;> by_cases h2 : a2 = b2 <;> by_cases h3 : a3 = b3 <;> by_cases h4 : a4 = b4 <;> by_cases h5 : a5 = b5 <;> by_cases h6 : a6 = b6 <;> by_cases h7 : a7 = b7 <;> simp only [h0, h1, h2, h3, h4, h5, h6, h7, if_true, if_false, decide_true, decide_false, Bool.and_true, Bool.and_false]

theorem run_rec_eql (a b : Rc) (w : World) : (binOp .eql 47 a.v b.v).run Tryz.prog w = .ok (.bool (decide (a = b))) w := by
  have h := run_rec_equal a b w
  unfold Rc.v at h ⊢
  rw [run_eql_struct, h]; rfl
theorem run_rec_neq (a b : Rc) (w : World) : (binOp .neq 47 a.v b.v).run Tryz.prog w = .ok (.bool (!decide (a = b))) w := by
  have h := run_rec_equal a b w
  unfold Rc.v at h ⊢
  rw [run_neq_struct, h]; rfl

end Go.Proofs.YtahebgceoidebaaGreat
