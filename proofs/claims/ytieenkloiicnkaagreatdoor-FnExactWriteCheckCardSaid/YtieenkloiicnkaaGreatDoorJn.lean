/- Texts of our own, joined. -/
import Derived.Test.YtieenkloiicnkaaGreatDoorJm
import Derived.Test.YtieenkloiicnkaaGreatDoorProg
import Derived.Test.YtieenkloiicnkaaGreatDoorJl
import Derived.WalkKit
import Derived.LaidEql
import Derived.Stop.Asserts
import Derived.RowKitTokens
import Derived.Laws.Cells
import Derived.Test.YtieenkloiicnkaaGreatDoorJj
import Derived.Test.YtieenkloiicnkaaGreatDoorJk
import Derived.Lib.Hide
import Derived.Deep.RegionHeld3
import Derived.Deep.QuietTactic
import Derived.BigQuiet
import Derived.Deep.DeepCutAuto
import Derived.WalkSmall
import Derived.Test.YtieenkloiicnkaaGreatDoorJc
import Derived.Test.YtieenkloiicnkaaGreatDoorJb
import Derived.Laws.BitsAllLaws
/- Whether a reference to a segment is there: refersTo of the program. -/
namespace Go.Proofs.YtieenkloiicnkaaGreatDoor
open Go.RowKit

set_option maxRecDepth 100000 in
theorem refers1_any (s : Rf) (k : Int) (g : Nat) (w : World) (h : w.cell? ⟨g, 0, none⟩ = some (.int .i64 k)) :
    Calls Tryz.prog 173 #[.agg #[.int .i64 s.1, .int .i64 s.2], .pointer (some ⟨g, 0, none⟩)] w fun e w' => e = .returned (.bool (decide (s.1 = k))) ∧ Below w.heap.size w w' := by
  have b1 := belNew w (.cells #[.int .i64 s.1, .int .i64 s.2] 124)
  have c0 := (b1.cell (p := ⟨g, 0, none⟩) (World.block_lt_of_cell? _ _ h)).trans h
  have q := (Box.new w #[.int .i64 s.1, .int .i64 s.2] 124).cell 0 _ rfl
  clear h
  obtain ⟨D, hD⟩ : ∃ D, decide (s.1 = k) = D := ⟨_, rfl⟩
  rw [hD]
  have HD := Lib.hid hD
  clear hD
  obtain ⟨s1, s2⟩ := s
  simp only at *
  by_cases hs : s1 = k
  · have HE : Hid (D = true) := by show _ = _; rw [← HD.out]; exact decide_eq_true hs
    clear HD
    subst hs
    go_enter Tryz.func173, Tryz.ntmps173
    go_wp2
    go_ret
    exact ⟨by rw [HE.out]; first | rfl | simp, b1⟩
  · have HE : Hid (D = false) := by show _ = _; rw [← HD.out]; exact decide_eq_false hs
    clear HD
    have hs' : (s1 == k) = false := beq_eq_false_iff_ne.2 hs
    go_enter Tryz.func173, Tryz.ntmps173
    go_wp2
    go_ret
    exact ⟨by rw [HE.out]; first | rfl | simp [hs'], b1⟩

set_option maxRecDepth 100000 in
set_option maxHeartbeats 2000000 in
theorem indexRef_any (l : List Rf) (v : Value) (k : Int) (gr : Nat) (w : World) (h : Rows' rfE w v l) (hl : l.length ≤ 1048576) (h0 : w.cell? ⟨gr, 0, none⟩ = some (.int .i64 k)) :
    Calls Tryz.prog 182 #[v, .func (.func 173) #[] #[.pointer (some ⟨gr, 0, none⟩)]] w fun e w' => (∃ r : Int, e = .returned (.int .i64 r) ∧ ((0 ≤ r ∧ hasR l k = true) ∨ (¬ 0 ≤ r ∧ hasR l k = false))) ∧ Below w.heap.size w w' := by
  obtain ⟨ad, cap, rfl, hrow⟩ := h.refs
  have HR : Hid _ := hrow
  clear h hrow
  obtain ⟨n, hn⟩ : ∃ n, l.length = n := ⟨_, rfl⟩
  rw [hn] at hl ⊢
  have HN := Lib.hid hn
  clear hn
  have l0 := World.block_lt_of_cell? _ _ h0
  have HO : Hid (∀ (y : Rf) x, Below w.heap.size w x → Calls Tryz.prog 173 #[.agg #[.int .i64 y.1, .int .i64 y.2], .pointer (some ⟨gr, 0, none⟩)] x fun e w' => e = .returned (.bool (decide (y.1 = k))) ∧ Below x.heap.size x w') := fun y x hx => refers1_any y k gr x ((hx.cell (p := ⟨gr, 0, none⟩) l0).trans h0)
  clear h0 l0
  obtain ⟨Q, hQ⟩ : ∃ Q, hasR l k = Q := ⟨_, rfl⟩
  rw [hQ]
  have HQ := Lib.hid hQ
  clear hQ
  go_enter Tryz.func182, Tryz.ntmps182
  go_wp2
  go_loopw [8] (fun iv wr => ∃ i : Nat, i ≤ n ∧ iv = .int .i64 (i : Int) ∧ Hid (hasR (l.take i) k = false) ∧ Below w.heap.size w wr) (fun iv _ => n - (intOf iv).toNat)
  case atStart => exact ⟨0, by omega, rfl, show _ = _ by simp [hasR], Below.refl _ _⟩
  case round =>
    obtain ⟨i, hi, rfl, HNO, bq⟩ := hrel
    by_cases hlt : i < n
    · obtain ⟨y, hgy⟩ : ∃ y, l[i]? = some y := ⟨_, List.getElem?_eq_getElem (by rw [HN.out]; omega)⟩
      obtain ⟨ga, oa, rfl, a0, a1⟩ := HR.out _ bq i y hgy
      have HOY := Lib.hid (HO.out y _ bq)
      have HT := Lib.hid (hasR_take hgy k)
      rw [HNO.out, Bool.false_or] at HT
      have HFA : Hid (decide (y.1 = k) = true → Q = true) := fun hy => by rw [← HQ.out]; exact List.any_eq_true.2 ⟨y, List.mem_of_getElem? hgy, hy⟩
      clear hgy
      generalize decide (y.1 = k) = D at HOY HT HFA
      have hi0 : (0 : Int) ≤ (i : Int) := by omega
      have hi1 : (i : Int) < (n : Int) := by omega
      cases D with
      | true =>
        have HF := Lib.hid (HFA.out rfl)
        clear HFA HT
        go_wp2_with (go_at_call 173; refine HOY.out.mono ?_; rintro e w1 ⟨rfl, k1⟩)
        go_ret
        exact ⟨⟨(i : Int), rfl, .inl ⟨hi0, HF.out⟩⟩, bq.trans (k1.mono bq.size)⟩
      | false =>
        clear HFA
        go_wp2_with (go_at_call 173; refine HOY.out.mono ?_; rintro e w1 ⟨rfl, k1⟩)
        exact ⟨⟨i + 1, by omega, by simp, HT, bq.trans (k1.mono bq.size)⟩, by first | omega | (simp [intOf]; omega)⟩
    · have HF : Hid (Q = false) := by
        have h1 := HNO.out
        rw [List.take_of_length_le (by rw [HN.out]; omega)] at h1
        rw [← HQ.out]
        exact h1
      clear HNO
      go_wp2
      go_ret
      exact ⟨⟨-1, rfl, .inr ⟨by omega, HF.out⟩⟩, bq⟩

set_option maxRecDepth 100000 in
theorem containsRef_any (l : List Rf) (v : Value) (k : Int) (gr : Nat) (w : World) (h : Rows' rfE w v l) (hl : l.length ≤ 1048576) (h0 : w.cell? ⟨gr, 0, none⟩ = some (.int .i64 k)) :
    Calls Tryz.prog 172 #[v, .func (.func 173) #[] #[.pointer (some ⟨gr, 0, none⟩)]] w fun e w' => e = .returned (.bool (hasR l k)) ∧ Below w.heap.size w w' := by
  have HI := Lib.hid (indexRef_any l v k gr w h hl h0)
  obtain ⟨ad, cap, rfl, _⟩ := h.refs
  clear h h0
  go_enter Tryz.func172, Tryz.ntmps172
  go_wp2_with fail
  refine HI.out.mono ?_
  rintro e w1 ⟨⟨r, rfl, hr⟩, k1⟩
  clear HI
  rcases hr with ⟨hr, he⟩ | ⟨hr, he⟩
  · have HE := Lib.hid he
    clear he
    go_wp2
    go_ret
    exact ⟨by rw [HE.out]; first | rfl | simp [hr], k1⟩
  · have HE := Lib.hid he
    clear he
    go_wp2
    go_ret
    exact ⟨by rw [HE.out]; first | rfl | simp [hr], k1⟩

set_option maxRecDepth 100000 in
theorem refersTo_any (l : List Rf) (v : Value) (k : Int) (w : World) (h : Rows' rfE w v l) (hl : l.length ≤ 1048576) :
    Calls Tryz.prog 155 #[v, .int .i64 k] w fun e w' => e = .returned (.bool (hasR l k)) ∧ Below w.heap.size w w' := by
  have b1 := belNew w (.cells #[.int .i64 k] 3)
  have q := (Box.new w #[.int .i64 k] 3).cell 0 _ rfl
  have HC := Lib.hid (containsRef_any l v k w.heap.size _ (h.later b1) hl q)
  obtain ⟨ad, cap, rfl, _⟩ := h.refs
  have hmf : ∀ (fn : Fn) (first cap : Array Value) (w : World), (Instr.makeFunc fn first cap).run Tryz.prog w = .ok (.func fn first cap) w := fun _ _ _ _ => rfl
  generalize hasR l k = D at HC
  clear h q
  go_enter Tryz.func155, Tryz.ntmps155
  go_wp2_with (go_at_call 172; refine HC.out.mono ?_; rintro e w1 ⟨rfl, k1⟩)
  go_ret
  exact ⟨rfl, b1.trans (k1.mono b1.size)⟩

end Go.Proofs.YtieenkloiicnkaaGreatDoor

/- errors.As at a target of the type fault: of no error it is false; of a fault it is true, and the target has it. -/
namespace Go.Proofs.YtieenkloiicnkaaGreatDoor
open Go.RowKit Go.Extern.Stop Go.Stop Go.Extern

/-- The variable that errors.As reads holds the handle of the type error. -/
def ErrTab (w : World) : Prop := w.cell? ⟨0, 0, none⟩ = some (.iface 214 (.agg #[.pointer (some ⟨2, 89, none⟩)]))

theorem as_nil (t : Value) (w : World) :
    Calls Tryz.prog 92 #[.nilIface, t] w fun e w' => e = .returned (.bool false) ∧ w = w' := by
  go_enter Tryz.func92, Tryz.ntmps92
  go_wp2
  go_ret
  exact ⟨rfl, rfl⟩

theorem rl_valueP (t : Addr) (w : World) : (ReflectliteValue.unpack (.iface 136 (.pointer (some t)))).run Tryz.prog w
    = .ok (.agg #[.pointer (some ⟨2, 136, none⟩), .pointer (some ⟨w.heap.size, 0, none⟩), .int .u64 150]) (w.alloc (.cells #[.pointer (some t)] 136)) := by kernel_rfl
theorem rl_typeP (a : Addr) (w : World) : (ReflectliteValue.methodAny (ReflectliteValue.valueError "reflectlite.Value.Type" 0) (fun t _ _ _ => ReflectliteType.toType t) #[.agg #[.pointer (some ⟨2, 136, none⟩), .pointer (some a), .int .u64 150]]).run Tryz.prog w
    = .ok (.iface 214 (.agg #[.pointer (some ⟨2, 136, none⟩)])) w := by kernel_rfl
theorem rl_methodKind (k : Nat) (h : Value) (w : World) : (Go.method (k + 1) 214 (.agg #[h]) "Kind").run Tryz.prog w = .ok (198, h) w := by kernel_rfl
theorem rl_kindP (w : World) : ((ReflectliteType.abiMethod fun t => (fun a : Nat => Value.int IntKind.u8 (a : Int)) <$> Rtype.kind t) #[.pointer (some ⟨2, 136, none⟩)]).run Tryz.prog w = .ok (.int .u8 22) w := by kernel_rfl
theorem rl_kindS (w : World) : ((ReflectliteType.abiMethod fun t => (fun a : Nat => Value.int IntKind.u8 (a : Int)) <$> Rtype.kind t) #[.pointer (some ⟨2, 134, none⟩)]).run Tryz.prog w = .ok (.int .u8 25) w := by kernel_rfl

theorem rlm (z : Sem Value) (f : TypeId → Addr → Nat → Nat → Sem Value) (v : Value) :
    ReflectliteValue.method z f #[v] = (do match ← ReflectliteValue.parts v with | none => z | some (t, a, fl) => f t a fl (fl % 32)) := rfl
theorem rl_partsP (a : Addr) (w : World) : (ReflectliteValue.parts (.agg #[.pointer (some ⟨2, 136, none⟩), .pointer (some a), .int .u64 150])).run Tryz.prog w = .ok (some (136, a, 150)) w := by kernel_rfl
theorem rl_isNil (a p : Addr) (W : World) (ha : W.cell? a = some (.pointer (some p))) :
    (ReflectliteValue.method (ReflectliteValue.valueError "reflectlite.Value.IsNil" 0) ReflectliteValue.isNil #[.agg #[.pointer (some ⟨2, 136, none⟩), .pointer (some a), .int .u64 150]]).run Tryz.prog W = .ok (.bool false) W := by
  rw [rlm]
  simp only [Sem.run_bind, rl_partsP, Result.andThen]
  simp [ReflectliteValue.isNil, loadVar, isAgg, underlying, Tryz.underlying136, ha, Result.andThen]

theorem rl_methodElem (k : Nat) (h : Value) (w : World) : (Go.method (k + 1) 214 (.agg #[h]) "Elem").run Tryz.prog w = .ok (210, .agg #[h]) w := by kernel_rfl
theorem rl_methodImplements (k : Nat) (h : Value) (w : World) : (Go.method (k + 1) 214 (.agg #[h]) "Implements").run Tryz.prog w = .ok (211, .agg #[h]) w := by kernel_rfl
theorem rl_methodAssignableTo (k : Nat) (h : Value) (w : World) : (Go.method (k + 1) 214 (.agg #[h]) "AssignableTo").run Tryz.prog w = .ok (208, .agg #[h]) w := by kernel_rfl
theorem rl_elemP (w : World) : (ReflectliteType.method ReflectliteType.elem #[.agg #[.pointer (some ⟨2, 136, none⟩)]]).run Tryz.prog w = .ok (.iface 214 (.agg #[.pointer (some ⟨2, 134, none⟩)])) w := by kernel_rfl
theorem rl_implements (w : World) : (ReflectliteType.relation "Implements" ReflectliteType.implements_ #[.agg #[.pointer (some ⟨2, 134, none⟩)], .iface 214 (.agg #[.pointer (some ⟨2, 89, none⟩)])]).run Tryz.prog w = .ok (.bool true) w := by kernel_rfl
theorem rl_typeOf (v : Value) (w : World) : (ReflectliteType.typeOf #[.iface 134 v]).run Tryz.prog w = .ok (.iface 214 (.agg #[.pointer (some ⟨2, 134, none⟩)])) w := by kernel_rfl
theorem rl_assignable (w : World) : (ReflectliteType.relation "AssignableTo" ReflectliteType.assignableTo #[.agg #[.pointer (some ⟨2, 134, none⟩)], .iface 214 (.agg #[.pointer (some ⟨2, 134, none⟩)])]).run Tryz.prog w = .ok (.bool true) w := by kernel_rfl
theorem rl_valueS (c : Int) (w : World) : (ReflectliteValue.unpack (.iface 134 (.agg #[.int .i64 c]))).run Tryz.prog w
    = .ok (.agg #[.pointer (some ⟨2, 134, none⟩), .pointer (some ⟨w.heap.size, 0, none⟩), .int .u64 153]) (w.alloc (.cells #[.int .i64 c] 134)) := by kernel_rfl

theorem rl_elemOf (w : World) : (Rtype.elem? 136).run Tryz.prog w = .ok (some 134) w := by kernel_rfl
theorem rl_mk (p : Addr) (w : World) : (ReflectliteValue.mk 134 p ReflectliteValue.flagAddr).run Tryz.prog w = .ok (.agg #[.pointer (some ⟨2, 134, none⟩), .pointer (some p), .int .u64 409]) w := by kernel_rfl
theorem rl_elemV (a p : Addr) (W : World) (ha : W.cell? a = some (.pointer (some p))) :
    (ReflectliteValue.method (ReflectliteValue.valueError "reflectlite.Value.Elem" 0) ReflectliteValue.elem #[.agg #[.pointer (some ⟨2, 136, none⟩), .pointer (some a), .int .u64 150]]).run Tryz.prog W
      = .ok (.agg #[.pointer (some ⟨2, 134, none⟩), .pointer (some p), .int .u64 409]) W := by
  rw [rlm]
  simp only [Sem.run_bind, rl_partsP, Result.andThen]
  simp [ReflectliteValue.elem, loadVar, isAgg, underlying, Tryz.underlying136, ha, Result.andThen, rl_elemOf, rl_mk]
theorem rls (v x : Value) : ReflectliteValue.set #[v, x] = (do
    let (some (dst, a, fl), some (src, b, _)) := (← ReflectliteValue.parts v, ← ReflectliteValue.parts x)
      | unsupported (.noEntry "extern/(internal/reflectlite.Value).Set.zeroValue")
    if fl / ReflectliteValue.flagAddr % 2 == 0 then unsupported (.noEntry "extern/(internal/reflectlite.Value).Set.unaddressable")
    let val ← loadVar src b
    if ← Rtype.directlyAssignable dst src then storeVar dst a val
    else if ← Rtype.implements dst src then
      if (← Rtype.kind src) == 20 then
        match val with
        | .nilIface => unsupported (.noEntry "extern/reflectlite: a nil value of one interface type handed on as a value of another")
        | _ => storeVar dst a val
      else storeVar dst a (.iface src val)
    else panicString ("reflectlite.Set: value of type " ++ (← Rtype.spelt src) ++ " is not assignable to type " ++ (← Rtype.spelt dst))
    pure (.tuple #[])) := rfl
theorem rl_partsSa (a : Addr) (w : World) : (ReflectliteValue.parts (.agg #[.pointer (some ⟨2, 134, none⟩), .pointer (some a), .int .u64 409])).run Tryz.prog w = .ok (some (134, a, 409)) w := by kernel_rfl
theorem rl_partsS (a : Addr) (w : World) : (ReflectliteValue.parts (.agg #[.pointer (some ⟨2, 134, none⟩), .pointer (some a), .int .u64 153])).run Tryz.prog w = .ok (some (134, a, 153)) w := by kernel_rfl
theorem rl_direct (w : World) : (Rtype.directlyAssignable 134 134).run Tryz.prog w = .ok true w := by kernel_rfl
theorem rl_load (b : Addr) (c : Int) (W : World) (hb : W.cell? b = some (.int .i64 c)) : (loadVar 134 b).run Tryz.prog W = .ok (.agg #[.int .i64 c]) W := by
  have hl : (loadCells b 1).run Tryz.prog W = .ok #[.int .i64 c] W := run_loadCells_list W b [.int .i64 c] (fun j v h => by
    cases j with
    | zero => simp at h; subst h; simpa [Addr.add] using hb
    | succ j => simp at h)
  simp [loadVar, isAgg, underlying, Tryz.underlying134, Result.andThen, hl]
theorem rl_store (ta : Addr) (c : Int) (old : Value) (W : World) (ht : W.cell? ta = some old) (hf : W.frozen? ta = false) : (storeVar 134 ta (.agg #[.int .i64 c])).run Tryz.prog W = .ok () (W.setCell ta (.int .i64 c)) := by
  simp [storeVar, Result.andThen, Value.cells, storeCells, Addr.add]
  rw [run_store Tryz.prog W ta _ _ (by rfl)]
  simp [ht, hf]
/-- (Value).Set: the fault at 'ta' gets what the Value's own variable 'b' holds. -/
theorem rl_set (ta b : Addr) (c : Int) (old : Value) (W : World) (hb : W.cell? b = some (.int .i64 c)) (ht : W.cell? ta = some old) (hf : W.frozen? ta = false) :
    (ReflectliteValue.set #[.agg #[.pointer (some ⟨2, 134, none⟩), .pointer (some ta), .int .u64 409], .agg #[.pointer (some ⟨2, 134, none⟩), .pointer (some b), .int .u64 153]]).run Tryz.prog W
      = .ok (.tuple #[]) (W.setCell ta (.int .i64 c)) := by
  rw [rls]
  simp only [Sem.run_bind, rl_partsSa, rl_partsS, Result.andThen]
  simp [ReflectliteValue.flagAddr, rl_load b c W hb, Result.andThen, rl_direct, rl_store ta c old W ht hf]

/-- A pointer's Value that was boxed. -/
def rvP (w : World) : Array Value := #[.pointer (some ⟨2, 136, none⟩), .pointer (some ⟨w.heap.size, 0, none⟩), .int .u64 150]
/-- The world behind errors.As of a fault. -/
def asW (c : Int) (t : Addr) (w : World) : World := ((((w.alloc (.cells #[.pointer (some t)] 136)).alloc (.cells (rvP w) 176)).alloc (.cells (rvP w) 176)).alloc (.cells #[.int .i64 c] 134)).setCell t (.int .i64 c)

set_option maxHeartbeats 4000000 in
theorem as_hit (c : Int) (t : Addr) (old : Value) (w : World) (hg : w.cell? ⟨0, 0, none⟩ = some (.iface 214 (.agg #[.pointer (some ⟨2, 89, none⟩)]))) (ht0 : w.cell? t = some old) (hf0 : w.frozen? t = false) :
    Calls Tryz.prog 92 #[.iface 134 (.agg #[.int .i64 c]), .iface 136 (.pointer (some t))] w fun ev w' => ev = .returned (.bool true) ∧ w' = asW c t w := by
  have h6 := @run_callFunc_extern Tryz.prog 132 _ (fun args => ReflectliteValue.unpack (args.getD 0 (.tuple #[]))) Tryz.func132 (by kernel_rfl) (by kernel_rfl) (by kernel_rfl) (by kernel_rfl)
  have h7 := @run_callFunc_extern Tryz.prog 133 _ (ReflectliteValue.methodAny (ReflectliteValue.valueError "reflectlite.Value.Type" 0) (fun t _ _ _ => ReflectliteType.toType t)) Tryz.func133 (by kernel_rfl) (by kernel_rfl) (by kernel_rfl) (by kernel_rfl)
  have h8 := @run_callFunc_extern Tryz.prog 134 _ (ReflectliteValue.method (ReflectliteValue.valueError "reflectlite.Value.IsNil" 0) ReflectliteValue.isNil) Tryz.func134 (by kernel_rfl) (by kernel_rfl) (by kernel_rfl) (by kernel_rfl)
  have h27 := @run_callFunc_extern Tryz.prog 198 _ (ReflectliteType.abiMethod fun t => do pure (.int .u8 (← Rtype.kind t))) Tryz.func198 (by kernel_rfl) (by kernel_rfl) (by kernel_rfl) (by kernel_rfl)
  have h37 := @run_callFunc_extern Tryz.prog 210 _ (ReflectliteType.method ReflectliteType.elem) Tryz.func210 (by kernel_rfl) (by kernel_rfl) (by kernel_rfl) (by kernel_rfl)
  have h38 := @run_callFunc_extern Tryz.prog 211 _ (ReflectliteType.relation "Implements" ReflectliteType.implements_) Tryz.func211 (by kernel_rfl) (by kernel_rfl) (by kernel_rfl) (by kernel_rfl)
  have h10 := @run_callFunc_extern Tryz.prog 161 _ ReflectliteType.typeOf Tryz.func161 (by kernel_rfl) (by kernel_rfl) (by kernel_rfl) (by kernel_rfl)
  have h35 := @run_callFunc_extern Tryz.prog 208 _ (ReflectliteType.relation "AssignableTo" ReflectliteType.assignableTo) Tryz.func208 (by kernel_rfl) (by kernel_rfl) (by kernel_rfl) (by kernel_rfl)
  have h11 := @run_callFunc_extern Tryz.prog 162 _ (ReflectliteValue.method (ReflectliteValue.valueError "reflectlite.Value.Elem" 0) ReflectliteValue.elem) Tryz.func162 (by kernel_rfl) (by kernel_rfl) (by kernel_rfl) (by kernel_rfl)
  have h12 := @run_callFunc_extern Tryz.prog 163 _ ReflectliteValue.set Tryz.func163 (by kernel_rfl) (by kernel_rfl) (by kernel_rfl) (by kernel_rfl)
  have tO := rl_typeOf
  have mA := rl_methodAssignableTo
  have a25 := rl_assignable
  have v25 := rl_valueS
  have f6 := rl_valueP
  have f7 := rl_typeP
  have mK := rl_methodKind
  have mE := rl_methodElem
  have mI := rl_methodImplements
  have k27 := rl_kindP
  have k25 := rl_kindS
  have e27 := rl_elemP
  have i25 := rl_implements
  have n8 := rl_isNil ⟨w.heap.size, 0, none⟩ t ((w.alloc (.cells #[.pointer (some t)] 136)).alloc (.cells #[.pointer (some ⟨2, 136, none⟩), .pointer (some ⟨w.heap.size, 0, none⟩), .int .u64 150] 176)) (by simp)
  have hlt : 0 < w.heap.size := World.block_lt_of_cell? _ _ hg
  have hg2 : ((w.alloc (.cells #[.pointer (some t)] 136)).alloc (.cells #[.pointer (some ⟨2, 136, none⟩), .pointer (some ⟨w.heap.size, 0, none⟩), .int .u64 150] 176)).cell? ⟨0, 0, none⟩ = some (.iface 214 (.agg #[.pointer (some ⟨2, 89, none⟩)])) := by
    rw [World.cell?_alloc_lt _ _ ⟨0, 0, none⟩ (by simp <;> omega), World.cell?_alloc_lt _ _ ⟨0, 0, none⟩ hlt]; exact hg
  have htl : t.block < w.heap.size := World.block_lt_of_cell? _ _ ht0
  have el := rl_elemV ⟨w.heap.size, 0, none⟩ t (((w.alloc (.cells #[.pointer (some t)] 136)).alloc (.cells #[.pointer (some ⟨2, 136, none⟩), .pointer (some ⟨w.heap.size, 0, none⟩), .int .u64 150] 176)).alloc (.cells #[.pointer (some ⟨2, 136, none⟩), .pointer (some ⟨w.heap.size, 0, none⟩), .int .u64 150] 176)) (by rw [World.cell?_alloc_lt _ _ ⟨w.heap.size, 0, none⟩ (by simp; omega)]; simp)
  have st := rl_set t ⟨w.heap.size + 1 + 1 + 1, 0, none⟩ c old ((((w.alloc (.cells #[.pointer (some t)] 136)).alloc (.cells #[.pointer (some ⟨2, 136, none⟩), .pointer (some ⟨w.heap.size, 0, none⟩), .int .u64 150] 176)).alloc (.cells #[.pointer (some ⟨2, 136, none⟩), .pointer (some ⟨w.heap.size, 0, none⟩), .int .u64 150] 176)).alloc (.cells #[.int .i64 c] 134))
    (by rw [World.cell?_alloc_at _ _ _ _ (by simp)]; rfl)
    (by rw [World.cell?_alloc_lt _ _ t (by simp; omega), World.cell?_alloc_lt _ _ t (by simp; omega), World.cell?_alloc_lt _ _ t (by simp; omega), World.cell?_alloc_lt _ _ t htl]; exact ht0)
    (by rw [World.frozen?_alloc_old _ _ t (by simp; omega), World.frozen?_alloc_old _ _ t (by simp; omega), World.frozen?_alloc_old _ _ t (by simp; omega), World.frozen?_alloc_old _ _ t (Nat.ne_of_lt htl)]; exact hf0)
  go_enter Tryz.func92, Tryz.ntmps92
  go_wp2
  refine wp_loop_rounds 1 ?_
  rw [rounds_succ]
  go_wp2
  go_ret
  exact ⟨rfl, rfl⟩

/-- All that was there below stays: the target is new. -/
theorem asW_below (c : Int) (g : Nat) (w0 w : World) (hb : Below w0.heap.size w0 w) (hg : w0.heap.size ≤ g) : Below w0.heap.size w0 (asW c ⟨g, 0, none⟩ w) := by
  unfold asW
  exact ((((hb.alloc hb.size _).alloc (hb.alloc hb.size _).size _).alloc ((hb.alloc hb.size _).alloc (hb.alloc hb.size _).size _).size _).alloc (((hb.alloc hb.size _).alloc (hb.alloc hb.size _).size _).alloc ((hb.alloc hb.size _).alloc (hb.alloc hb.size _).size _).size _).size _).setCell (p := ⟨g, 0, none⟩) hg _

set_option maxRecDepth 100000 in
theorem codeOf_nil (w : World) : Calls Tryz.prog 50 #[.nilIface] w fun e w' => e = .returned (.int .i64 0) ∧ Below w.heap.size w w' := by
  have b0 := belNew w (.cells #[.int .i64 0] 134)
  go_enter Tryz.func50, Tryz.ntmps50
  go_wp2_with (go_at_call 92; refine (as_nil _ _).mono ?_; rintro e w1 ⟨rfl, rfl⟩)
  go_ret
  exact ⟨rfl, b0⟩

set_option maxRecDepth 100000 in
theorem codeOf_fault (c : Int) (w : World) (h : ErrTab w) : Calls Tryz.prog 50 #[.iface 134 (.agg #[.int .i64 c])] w fun e w' => e = .returned (.int .i64 c) ∧ Below w.heap.size w w' := by
  have b0 := belNew w (.cells #[.int .i64 0] 134)
  have hg : (w.alloc (.cells #[.int .i64 0] 134)).cell? ⟨0, 0, none⟩ = some (.iface 214 (.agg #[.pointer (some ⟨2, 89, none⟩)])) := (b0.cell (p := ⟨0, 0, none⟩) (World.block_lt_of_cell? _ _ h)).trans h
  have X0 := Box.new w #[.int .i64 0] 134
  have HA := Lib.hid (as_hit c ⟨w.heap.size, 0, none⟩ _ _ hg (X0.cell 0 _ rfl) (X0.loose 0))
  have HB := Lib.hid (asW_below c w.heap.size w _ b0 (Nat.le_refl _))
  have HX : Hid ((asW c ⟨w.heap.size, 0, none⟩ (w.alloc (.cells #[.int .i64 0] 134))).cell? ⟨w.heap.size, 0, none⟩ = some (.int .i64 c)) := by
    show _ = _
    unfold asW
    have X4 := (((X0.later (belNew _ (.cells #[.pointer (some ⟨w.heap.size, 0, none⟩)] 136))).later (belNew _ (.cells (rvP (w.alloc (.cells #[.int .i64 0] 134))) 176))).later (belNew _ (.cells (rvP (w.alloc (.cells #[.int .i64 0] 134))) 176))).later (belNew _ (.cells #[.int .i64 c] 134))
    exact (X4.set 0 (.int .i64 c)).cell 0 _ rfl
  clear X0 hg b0 h
  go_enter Tryz.func50, Tryz.ntmps50
  go_wp2_with fail
  refine HA.out.mono ?_
  rintro e w1 ⟨rfl, rfl⟩
  have hx := HX.out
  generalize asW c ⟨w.heap.size, 0, none⟩ (w.alloc (.cells #[.int .i64 0] 134)) = W at hx HB ⊢
  clear HA HX
  go_wp2
  go_ret
  exact ⟨rfl, HB.out⟩

end Go.Proofs.YtieenkloiicnkaaGreatDoor

/- Frames: what FrameOk hands back, of the model and of the program. -/
namespace Go.Proofs.YtieenkloiicnkaaGreatDoor
open Go.RowKit

/-- A frame as a value. -/
def Fr.v (f : Fr) : Value := .agg #[.int .i64 f.gen, .int .i64 f.seq, .string f.body]
def Fr.numOk (n : Int) : Prop := 1 ≤ n ∧ n ≤ 1000000000
instance (n : Int) : Decidable (Fr.numOk n) := by unfold Fr.numOk; infer_instance

theorem numberOk_any (n : Int) (w : World) : Calls Tryz.prog 114 #[.int .i64 n] w fun e w' => e = .returned (.bool (decide (Fr.numOk n))) ∧ w = w' := by
  by_cases h1 : 1 ≤ n
  · by_cases h2 : n ≤ 1000000000
    all_goals
      have e : decide (Fr.numOk n) = decide (n ≤ 1000000000) := by simp [Fr.numOk, h1]
      rw [e]
      go_enter Tryz.func114, Tryz.ntmps114
      go_wp2
      go_ret
      simp [h2]
  · have e : decide (Fr.numOk n) = false := by simp [Fr.numOk, h1]
    rw [e]
    go_enter Tryz.func114, Tryz.ntmps114
    go_wp2
    go_ret
    simp

theorem box3_cells (w : World) (f : Fr) : (w.alloc (.cells #[.int .i64 f.gen, .int .i64 f.seq, .string f.body] 69)).cell? ⟨w.heap.size, 0, none⟩ = some (.int .i64 f.gen) ∧
    (w.alloc (.cells #[.int .i64 f.gen, .int .i64 f.seq, .string f.body] 69)).cell? ⟨w.heap.size, 1, none⟩ = some (.int .i64 f.seq) ∧
    (w.alloc (.cells #[.int .i64 f.gen, .int .i64 f.seq, .string f.body] 69)).cell? ⟨w.heap.size, 2, none⟩ = some (.string f.body) := by
  refine ⟨?_, ?_, ?_⟩ <;> simp [go_sem]

set_option maxRecDepth 100000 in
set_option maxHeartbeats 1000000 in
theorem implFrameOk_any (f : Fr) (w : World) (hs : f.body.size ≤ 1099511627776) :
    Calls Tryz.prog 76 #[f.v] w fun e w' => e = .returned (.bool (decide f.ok)) ∧ Below w.heap.size w w' := by
  obtain ⟨c0, c1, c2⟩ := box3_cells w f
  have b0 : Below w.heap.size w (w.alloc (.cells #[.int .i64 f.gen, .int .i64 f.seq, .string f.body] 69)) := (Below.refl _ _).alloc (Nat.le_refl _) _
  unfold Fr.v
  by_cases hg : Fr.numOk f.gen
  · by_cases hq : Fr.numOk f.seq
    · have e : decide f.ok = (decide (1 ≤ f.body.size) && decide (f.body.size ≤ 180)) := by
        have h1 := hg; have h2 := hq
        unfold Fr.numOk at h1 h2
        simp [Fr.ok, h1, h2]
      rw [e]
      by_cases h1 : 1 ≤ f.body.size
      · by_cases h2 : f.body.size ≤ 180
        all_goals
          have HG := Lib.hid hg; have HQ := Lib.hid hq
          clear hg hq e
          go_enter Tryz.func76, Tryz.ntmps76
          go_wp2_with (first
            | (go_at_call 114; refine (numberOk_any _ _).mono ?_; rintro e w1 ⟨rfl, rfl⟩; first | rw [decide_eq_true HG.out] | rw [decide_eq_true HQ.out]))
          go_ret
          exact ⟨by simp [h1, h2]; try omega, b0⟩
      · have HG := Lib.hid hg; have HQ := Lib.hid hq
        clear hg hq e
        go_enter Tryz.func76, Tryz.ntmps76
        go_wp2_with (first
          | (go_at_call 114; refine (numberOk_any _ _).mono ?_; rintro e w1 ⟨rfl, rfl⟩; first | rw [decide_eq_true HG.out] | rw [decide_eq_true HQ.out]))
        go_ret
        exact ⟨by simp, b0⟩
    · have e : decide f.ok = false := by
        apply decide_eq_false
        intro h
        exact hq h.2.1
      rw [e]
      have HG := Lib.hid hg; have HQ := Lib.hid hq
      clear hg hq e
      go_enter Tryz.func76, Tryz.ntmps76
      go_wp2_with (first
        | (go_at_call 114; refine (numberOk_any _ _).mono ?_; rintro e w1 ⟨rfl, rfl⟩; first | rw [decide_eq_true HG.out] | rw [decide_eq_false HQ.out]))
      go_ret
      exact ⟨rfl, b0⟩
  · have e : decide f.ok = false := by
      apply decide_eq_false
      intro h
      exact hg h.1
    rw [e]
    have HG := Lib.hid hg
    clear hg e
    go_enter Tryz.func76, Tryz.ntmps76
    go_wp2_with (first
      | (go_at_call 114; refine (numberOk_any _ _).mono ?_; rintro e w1 ⟨rfl, rfl⟩; rw [decide_eq_false HG.out]))
    go_ret
    exact ⟨rfl, b0⟩

theorem in_any (x a b : Int) (w : World) :
    Calls Tryz.prog 56 #[.int .i64 x, .int .i64 a, .int .i64 b] w fun e w' => e = .returned (.bool (decide (a ≤ x ∧ x ≤ b))) ∧ w = w' := by
  refine (l01In_any x a b w).mono ?_
  rintro e w' ⟨rfl, rfl⟩
  exact ⟨by simp, rfl⟩

set_option maxRecDepth 100000 in
set_option maxHeartbeats 1000000 in
theorem specFrameOk_any (f : Fr) (w : World) (hs : f.body.size ≤ 1099511627776) :
    Calls Tryz.prog 110 #[f.v] w fun e w' => e = .returned (.bool (decide f.ok)) ∧ Below w.heap.size w w' := by
  obtain ⟨c0, c1, c2⟩ := box3_cells w f
  have b0 : Below w.heap.size w (w.alloc (.cells #[.int .i64 f.gen, .int .i64 f.seq, .string f.body] 69)) := (Below.refl _ _).alloc (Nat.le_refl _) _
  unfold Fr.v
  by_cases hg : 1 ≤ f.gen ∧ f.gen ≤ 1000000000
  · by_cases hq : 1 ≤ f.seq ∧ f.seq ≤ 1000000000
    · have e : decide f.ok = decide ((1 : Int) ≤ (f.body.size : Int) ∧ (f.body.size : Int) ≤ 180) := by
        apply decide_eq_decide.2
        unfold Fr.ok
        constructor
        · intro h; omega
        · intro h; exact ⟨hg, hq, by omega⟩
      rw [e]
      have HG := Lib.hid hg; have HQ := Lib.hid hq
      clear hg hq e
      go_enter Tryz.func110, Tryz.ntmps110
      go_wp2_with (first
        | (go_at_call 56; refine (in_any _ _ _ _).mono ?_; rintro e w1 ⟨rfl, rfl⟩; first | rw [decide_eq_true HG.out] | rw [decide_eq_true HQ.out] | skip))
      go_ret
      exact ⟨by simp, b0⟩
    · have e : decide f.ok = false := by
        apply decide_eq_false
        intro h
        exact hq h.2.1
      rw [e]
      have HG := Lib.hid hg; have HQ := Lib.hid hq
      clear hg hq e
      go_enter Tryz.func110, Tryz.ntmps110
      go_wp2_with (first
        | (go_at_call 56; refine (in_any _ _ _ _).mono ?_; rintro e w1 ⟨rfl, rfl⟩; first | rw [decide_eq_true HG.out] | rw [decide_eq_false HQ.out]))
      go_ret
      exact ⟨rfl, b0⟩
  · have e : decide f.ok = false := by
      apply decide_eq_false
      intro h
      exact hg h.1
    rw [e]
    have HG := Lib.hid hg
    clear hg e
    go_enter Tryz.func110, Tryz.ntmps110
    go_wp2_with (first
      | (go_at_call 56; refine (in_any _ _ _ _).mono ?_; rintro e w1 ⟨rfl, rfl⟩; rw [decide_eq_false HG.out]))
    go_ret
    exact ⟨rfl, b0⟩

end Go.Proofs.YtieenkloiicnkaaGreatDoor

/- CheckOk of the program: what is wrong with a check is a fault with a code. -/
namespace Go.Proofs.YtieenkloiicnkaaGreatDoor
open Go.RowKit

theorem segNo_any (s : Int) (w : World) :
    Calls Tryz.prog 102 #[.int .i64 s] w fun e w' => e = .returned (.bool (decide (0 ≤ s ∧ s ≤ 10))) ∧ w = w' := by
  by_cases h1 : 0 ≤ s
  · have g2 : decide (s < 11) = decide (0 ≤ s ∧ s ≤ 10) := decide_eq_decide.2 ⟨fun h => ⟨h1, by omega⟩, fun h => by omega⟩
    rw [← g2]
    clear g2
    go_enter Tryz.func102, Tryz.ntmps102
    go_wp2
    go_ret
    exact ⟨rfl, rfl⟩
  · rw [decide_eq_false (show ¬ (0 ≤ s ∧ s ≤ 10) by omega)]
    go_enter Tryz.func102, Tryz.ntmps102
    go_wp2
    go_ret
    exact ⟨rfl, rfl⟩
theorem segNo_q {s : Int} {D : Bool} (hd : decide (0 ≤ s ∧ s ≤ 10) = D) (w : World) : Calls Tryz.prog 102 #[.int .i64 s] w fun e w' => e = .returned (.bool D) ∧ w' = w :=
  (segNo_any s w).mono fun _ _ h => ⟨by rw [← hd]; exact h.1, h.2.symm⟩

theorem sliceTo_run {g o n cap i : Nat} (h : i ≤ cap) (wx : World) : (Instr.slice 46 (.slice (some ⟨g, o, none⟩) n cap) none (some (.int .i64 (i : Int))) none).run Tryz.prog wx = .ok (.slice (some ⟨g, o, none⟩) i cap) wx := by
  rw [run_slice_h (P := Tryz.prog) wx 46 _ n cap (by kernel_rfl) .i64 (i : Int) (by omega) (by omega)]
  rw [show Tryz.prog.elem 46 = 124 by kernel_rfl, Tryz.sizeOf124]
  simp [Result.andThen, sliced, Addr.add]

/-- The number at a place of the four. -/
def numAt (st ng ns nv : Int) (i : Nat) : Int := if i = 0 then st else if i = 1 then ng else if i = 2 then ns else nv

theorem numAt_run0 (st ng ns nv : Int) (wx : World) : (Instr.index 202 (.agg #[.int .i64 st, .int .i64 ng, .int .i64 ns, .int .i64 nv]) (.int .i64 0)).run Tryz.prog wx = .ok (.int .i64 st) wx := by kernel_rfl
theorem numAt_run1 (st ng ns nv : Int) (wx : World) : (Instr.index 202 (.agg #[.int .i64 st, .int .i64 ng, .int .i64 ns, .int .i64 nv]) (.int .i64 1)).run Tryz.prog wx = .ok (.int .i64 ng) wx := by kernel_rfl
theorem numAt_run2 (st ng ns nv : Int) (wx : World) : (Instr.index 202 (.agg #[.int .i64 st, .int .i64 ng, .int .i64 ns, .int .i64 nv]) (.int .i64 2)).run Tryz.prog wx = .ok (.int .i64 ns) wx := by kernel_rfl
theorem numAt_run3 (st ng ns nv : Int) (wx : World) : (Instr.index 202 (.agg #[.int .i64 st, .int .i64 ng, .int .i64 ns, .int .i64 nv]) (.int .i64 3)).run Tryz.prog wx = .ok (.int .i64 nv) wx := by kernel_rfl
theorem numAt_run (st ng ns nv : Int) {i : Nat} (h : i < 4) (wx : World) : (Instr.index 202 (.agg #[.int .i64 st, .int .i64 ng, .int .i64 ns, .int .i64 nv]) (.int .i64 (i : Int))).run Tryz.prog wx = .ok (.int .i64 (numAt st ng ns nv i)) wx := by
  have : i = 0 ∨ i = 1 ∨ i = 2 ∨ i = 3 := by omega
  rcases this with rfl | rfl | rfl | rfl
  · exact numAt_run0 st ng ns nv wx
  · exact numAt_run1 st ng ns nv wx
  · exact numAt_run2 st ng ns nv wx
  · exact numAt_run3 st ng ns nv wx

/-- What wrongWith hands back. -/
def WrongC (c : Ck) (e : Ending) : Prop := (c.ok ∧ e = .returned .nilIface) ∨ (¬ c.ok ∧ ∃ k : Int, (k = 1 ∨ k = 2) ∧ e = .returned (.iface 134 (.agg #[.int .i64 k])))
set_option maxRecDepth 100000 in
set_option maxHeartbeats 8000000 in
theorem wrongWith_any (c : Ck) (a : Option Addr) (cap : Nat) (w : World) (h : Rows' rfE w (.slice a c.refs.length cap) c.refs) (hl : c.refs.length ≤ 1048576) :
    Calls Tryz.prog 120 #[.agg #[.int .i64 c.st, .int .i64 c.ng, .int .i64 c.ns, .int .i64 c.nv, .slice a c.refs.length cap]] w fun e w' => WrongC c e ∧ Below w.heap.size w w' := by
  have HRW := Lib.hid h
  obtain ⟨_, _, hv, hrow⟩ := h.refs
  cases hv
  have HR := Lib.hid hrow
  clear h hrow
  have HYES : Hid (c.ok → WrongC c (.returned .nilIface)) := fun h => .inl ⟨h, rfl⟩
  have HNO : Hid (¬ c.ok → ∀ k : Int, (k = 1 ∨ k = 2) → WrongC c (.returned (.iface 134 (.agg #[.int .i64 k])))) := fun h k hk => .inr ⟨h, k, hk, rfl⟩
  obtain ⟨st, ng, ns, nv, rs⟩ := c
  generalize WrongC ⟨st, ng, ns, nv, rs⟩ = A at HYES HNO ⊢
  replace HYES : Hid (((numIn st ∧ numIn ng ∧ numIn ns ∧ numIn nv) ∧ (1 ≤ rs.length ∧ rs.length ≤ 11) ∧ ∀ (i : Nat) (r : Rf), rs[i]? = some r → rfAt ng rs i r) → A (.returned .nilIface)) := HYES
  replace HNO : Hid (¬ ((numIn st ∧ numIn ng ∧ numIn ns ∧ numIn nv) ∧ (1 ≤ rs.length ∧ rs.length ≤ 11) ∧ ∀ (i : Nat) (r : Rf), rs[i]? = some r → rfAt ng rs i r) → ∀ k : Int, (k = 1 ∨ k = 2) → A (.returned (.iface 134 (.agg #[.int .i64 k])))) := HNO
  simp only at hl HR HRW ⊢
  obtain ⟨n, hn⟩ : ∃ n, rs.length = n := ⟨_, rfl⟩
  rw [hn] at hl HYES HNO HRW ⊢
  have HN := Lib.hid hn
  clear hn
  have X0 := Box.new w #[.int .i64 st, .int .i64 ng, .int .i64 ns, .int .i64 nv, .slice a n cap] 48
  have b0 := belNew w (.cells #[.int .i64 st, .int .i64 ng, .int .i64 ns, .int .i64 nv, .slice a n cap] 48)
  have HC : Hid (∀ x, Below (w.alloc (.cells #[.int .i64 st, .int .i64 ng, .int .i64 ns, .int .i64 nv, .slice a n cap] 48)).heap.size (w.alloc (.cells #[.int .i64 st, .int .i64 ng, .int .i64 ns, .int .i64 nv, .slice a n cap] 48)) x → (x.cell? ⟨w.heap.size, 0, none⟩ = some (.int .i64 st) ∧ x.cell? ⟨w.heap.size, 1, none⟩ = some (.int .i64 ng) ∧ x.cell? ⟨w.heap.size, 2, none⟩ = some (.int .i64 ns) ∧ x.cell? ⟨w.heap.size, 3, none⟩ = some (.int .i64 nv) ∧ x.cell? ⟨w.heap.size, 4, none⟩ = some (.slice a n cap)) ∧ Below w.heap.size w x) := fun x hx => by
    obtain ⟨x0, x1, x2, x3, x4, _⟩ := (X0.later hx).fiveC
    exact ⟨⟨x0, x1, x2, x3, x4⟩, b0.trans (hx.mono b0.size)⟩
  clear X0 b0
  go_enter Tryz.func120, Tryz.ntmps120
  go_upto_region 1 with fail
  generalize w.alloc (.cells #[.int .i64 st, .int .i64 ng, .int .i64 ns, .int .i64 nv, .slice a n cap] 48) = W at HC ⊢
  obtain ⟨g, hg⟩ : ∃ g, w.heap.size = g := ⟨_, rfl⟩
  rw [hg] at HC
  replace HC : Hid (∀ x, Below W.heap.size W x → (x.cell? ⟨g, 0, none⟩ = some (.int .i64 st) ∧ x.cell? ⟨g, 1, none⟩ = some (.int .i64 ng) ∧ x.cell? ⟨g, 2, none⟩ = some (.int .i64 ns) ∧ x.cell? ⟨g, 3, none⟩ = some (.int .i64 nv) ∧ x.cell? ⟨g, 4, none⟩ = some (.slice a n cap)) ∧ Below w.heap.size w x) := by rw [hg]; exact HC
  have HG := Lib.hid hg
  try simp only [hg]
  clear hg
  obtain ⟨⟨c0, c1, c2, c3, c4⟩, bW⟩ := HC.out _ (Below.refl _ _)
  go_wp2_with fail
  clear c0 c1 c2 c3 c4
  go_loopw [17] (fun iv wr => ∃ i : Nat, i ≤ 4 ∧ iv = .int .i64 (i : Int) ∧ Hid (∀ k, k < i → numIn (numAt st ng ns nv k)) ∧ Below W.heap.size W wr) (fun iv _ => 4 - (intOf iv).toNat)
  case atStart => exact ⟨0, by omega, rfl, fun k hk => by omega, Below.refl _ _⟩
  case round =>
    obtain ⟨i, hi, rfl, HOK, bq⟩ := hrel
    have bw := (HC.out _ bq).2
    by_cases hlt : i < 4
    · have hix := numAt_run st ng ns nv hlt
      have HBAD : Hid (¬ numIn (numAt st ng ns nv i) → A (.returned (.iface 134 (.agg #[.int .i64 1])))) := fun hb => HNO.out (fun c => hb (by
        have : i = 0 ∨ i = 1 ∨ i = 2 ∨ i = 3 := by omega
        rcases this with rfl | rfl | rfl | rfl
        · exact c.1.1
        · exact c.1.2.1
        · exact c.1.2.2.1
        · exact c.1.2.2.2)) 1 (.inl rfl)
      have HS : Hid (numIn (numAt st ng ns nv i) → ∀ k, k < i + 1 → numIn (numAt st ng ns nv k)) := fun hb k hk => by
        rcases Nat.lt_succ_iff_lt_or_eq.1 hk with h | rfl
        · exact HOK.out k h
        · exact hb
      generalize numAt st ng ns nv i = N at hix HBAD HS
      have hi4 : (i : Int) < 4 := by omega
      by_cases hn : numIn N
      · have HS' := Lib.hid (HS.out hn)
        have hd : decide (Fr.numOk N) = true := decide_eq_true hn
        clear HS HBAD
        go_wp2_with (go_at_call 114; refine (numberOk_any _ _).mono ?_; rintro e w1 ⟨rfl, rfl⟩; rw [hd])
        go_roundw
        case rel => exact ⟨i + 1, by omega, by go_num, HS', bq⟩
        case measure => simp [intOf]; omega
      · have HE := Lib.hid (HBAD.out hn)
        have hd : decide (Fr.numOk N) = false := decide_eq_false hn
        clear HS HBAD
        go_wp2_with (go_at_call 114; refine (numberOk_any _ _).mono ?_; rintro e w1 ⟨rfl, rfl⟩; rw [hd])
        go_ret
        exact ⟨HE.out, bw⟩
    · have hge : ¬ (i : Int) < 4 := by omega
      have h1 : 1 ≤ st ∧ st ≤ 1000000000 := HOK.out 0 (by omega)
      have h2 : 1 ≤ ng ∧ ng ≤ 1000000000 := HOK.out 1 (by omega)
      have h3 : 1 ≤ ns ∧ ns ≤ 1000000000 := HOK.out 2 (by omega)
      have h4 : 1 ≤ nv ∧ nv ≤ 1000000000 := HOK.out 3 (by omega)
      obtain ⟨⟨c0, c1, c2, c3, c4⟩, _⟩ := HC.out _ bq
      by_cases h5 : 1 ≤ n ∧ n ≤ 11
      rotate_left
      · have HE : Hid (A (.returned (.iface 134 (.agg #[.int .i64 2])))) := HNO.out (fun c => h5 c.2.1) 2 (.inr rfl)
        rcases (show n < 1 ∨ (¬ n < 1 ∧ 11 < n) by omega) with hz | ⟨hz, hy⟩
        · have hz' : (n : Int) < 1 := by omega
          go_wp2
          go_ret
          exact ⟨HE.out, bw⟩
        · have hz' : ¬ (n : Int) < 1 := by omega
          have hy' : (11 : Int) < (n : Int) := by omega
          go_wp2
          go_ret
          exact ⟨HE.out, bw⟩
      have HBAD : Hid (∀ (i : Nat) (r : Rf), rs[i]? = some r → ¬ rfAt ng rs i r → A (.returned (.iface 134 (.agg #[.int .i64 2])))) := fun i r hr hb => HNO.out (fun c => hb (c.2.2 i r hr)) 2 (.inr rfl)
      have HGOOD : Hid ((∀ (i : Nat) (r : Rf), rs[i]? = some r → rfAt ng rs i r) → A (.returned .nilIface)) := fun hb => HYES.out ⟨⟨h1, h2, h3, h4⟩, h5, hb⟩
      have hz' : ¬ (n : Int) < 1 := by omega
      have hy' : ¬ (11 : Int) < (n : Int) := by omega
      obtain ⟨wA, hwA⟩ : ∃ wA, wA = wr := ⟨_, rfl⟩
      subst hwA
      clear HYES HNO HOK bw
      go_wp2
      clear c0 c1 c2 c3 c4
      go_loopw [5, 41] (fun lv iv wr => ∃ (i : Nat) (last : Int), i ≤ n ∧ lv = .int .i64 last ∧ iv = .int .i64 (i : Int) ∧ Hid ((∀ (k : Nat) (r : Rf), k < i → rs[k]? = some r → rfAt ng rs k r) ∧ (i = 0 → last = 0) ∧ (∀ p : Rf, 0 < i → rs[i - 1]? = some p → last = p.2) ∧ 0 ≤ last) ∧ Below W.heap.size W wr) (fun _ iv _ => n - (intOf iv).toNat)
      case atStart => exact ⟨0, 0, by omega, rfl, rfl, ⟨fun k r hk => by omega, fun _ => rfl, fun p hp => by omega, by omega⟩, bq⟩
      case round =>
        clear bq
        obtain ⟨i, last, hi, rfl, rfl, HOK, bq⟩ := hrel
        obtain ⟨⟨c0, c1, c2, c3, c4⟩, bw⟩ := HC.out _ bq
        by_cases hlt : i < n
        · obtain ⟨r, hgr⟩ : ∃ r, rs[i]? = some r := ⟨_, List.getElem?_eq_getElem (by rw [HN.out]; exact hlt)⟩
          obtain ⟨gp, op, rfl, p0, p1⟩ := HR.out _ bw i _ hgr
          have HGR := Lib.hid hgr
          clear hgr
          have HCAP : Hid (n ≤ cap) := by
            rcases HRW.out with ⟨hz, _⟩ | ⟨_, _, _, e, hc, _⟩
            · have := HN.out; rw [hz] at this; simp at this; omega
            · cases e; rw [HN.out] at hc; exact hc
          have HIFF : Hid (rfAt ng rs i r ↔ ¬ r.2 ≤ last ∧ ¬ ng ≤ r.2 ∧ (0 ≤ r.1 ∧ r.1 ≤ 10) ∧ hasR (rs.take i) r.1 = false) :=
            ⟨fun h => rfAt_not (by rw [HN.out]; omega) HOK.out.2.1 HOK.out.2.2.1 h, fun h => rfAt_of HOK.out.2.2.1 HOK.out.2.2.2 h.1 h.2.1 h.2.2.1 h.2.2.2⟩
          obtain ⟨rN, rG⟩ := r
          simp only at p0 p1 HIFF
          have hi0 : (0 : Int) ≤ (i : Int) := by omega
          have hi1 : (i : Int) < (n : Int) := by omega
          have XB := Box.new wr #[.int .i64 rN, .int .i64 rG] 124
          have k9 := belNew wr (.cells #[.int .i64 rN, .int .i64 rG] 124)
          have b9 := bq.trans (k9.mono bq.size)
          clear bq bw
          go_upto_region 13 with fail
          clear p0 p1 c0 c1 c2 c3 c4
          generalize wr.alloc (.cells #[.int .i64 rN, .int .i64 rG] 124) = w9 at XB b9 ⊢
          obtain ⟨g9, hg9⟩ : ∃ g9, wr.heap.size = g9 := ⟨_, rfl⟩
          rw [hg9] at XB ⊢
          clear hg9 k9
          have H9 : Hid (∀ x, Below w9.heap.size w9 x → (x.cell? ⟨g9, 0, none⟩ = some (.int .i64 rN) ∧ x.cell? ⟨g9, 1, none⟩ = some (.int .i64 rG) ∧ x.cell? ⟨g, 1, none⟩ = some (.int .i64 ng) ∧ x.cell? ⟨g, 4, none⟩ = some (.slice (some ⟨gp, op, none⟩) n cap)) ∧ Below w.heap.size w x ∧ Below W.heap.size W x) := fun x hx =>
            have hb := b9.trans (hx.mono b9.size)
            ⟨⟨(XB.later hx).cell 0 _ rfl, (XB.later hx).cell 1 _ rfl, (HC.out _ hb).1.2.1, (HC.out _ hb).1.2.2.2.2⟩, (HC.out _ hb).2, hb⟩
          clear XB b9
          obtain ⟨F, hF0⟩ := someC (¬ rfAt ng rs i (rN, rG))
          have hF := Lib.hid hF0
          clear hF0
          go_cut [71] (fun c wx => c = .bool F ∧ Below w9.heap.size w9 wx)
          case first =>
            obtain ⟨⟨d0, d1, c1, c4⟩, bw, _⟩ := H9.out _ (Below.refl _ _)
            by_cases ha : rG ≤ last
            · have HE : Hid (F = true) := hF.out.2 (fun c => (HIFF.out.1 c).1 ha)
              clear hF HR HN HC HBAD HGOOD HOK HGR H9 bw HIFF HRW
              go_quiet (fail)
              go_wp2_with fail
              go_meet
              exact ⟨by rw [HE.out], below_drewN (Below.refl _ _) _⟩
            by_cases hb : ng ≤ rG
            · have HE : Hid (F = true) := hF.out.2 (fun c => (HIFF.out.1 c).2.1 hb)
              clear hF HR HN HC HBAD HGOOD HOK HGR H9 bw HIFF HRW
              go_quiet (fail)
              go_wp2_with fail
              go_meet
              exact ⟨by rw [HE.out], below_drewN (Below.refl _ _) _⟩
            by_cases hs : 0 ≤ rN ∧ rN ≤ 10
            rotate_left
            · have HE : Hid (F = true) := hF.out.2 (fun c => hs (HIFF.out.1 c).2.2.1)
              have HQ := Lib.hid (fun x => segNo_q (decide_eq_false hs) x)
              clear hF HR HN HC HBAD HGOOD HOK HGR H9 bw HIFF HRW
              go_quiet (first | (go_at_call 102; exact Calls.quiet_of_same (HQ.out _)))
              go_wp2_with fail
              go_meet
              exact ⟨by rw [HE.out], below_drewN (Below.refl _ _) _⟩
            have hd : decide (0 ≤ rN ∧ rN ≤ 10) = true := decide_eq_true hs
            have HFE : Hid (F = hasR (rs.take i) rN) := by
              show _ = _
              cases hq : hasR (rs.take i) rN with
              | true => exact hF.out.2 (fun c => by have := (HIFF.out.1 c).2.2.2; rw [hq] at this; cases this)
              | false => exact Bool.eq_false_iff.2 (fun h => hF.out.1 h (HIFF.out.2 ⟨ha, hb, hs, hq⟩))
            have HTK := Lib.hid (fun x (hx : Below w.heap.size w x) => refersTo_any (rs.take i) (.slice (some ⟨gp, op, none⟩) i cap) rN x ((HRW.out.later hx).takeR i (by omega)) (by rw [List.length_take]; omega))
            generalize hasR (rs.take i) rN = D at HFE HTK
            have hsl : ∀ wx, (Instr.slice 46 (.slice (some ⟨gp, op, none⟩) n cap) none (some (.int .i64 (i : Int))) none).run Tryz.prog wx = .ok (.slice (some ⟨gp, op, none⟩) i cap) wx := fun wx => sliceTo_run (by have := HCAP.out; omega) wx
            have kk : Below w9.heap.size w9 w9.drew := (Below.refl _ _).drew
            obtain ⟨⟨e0, e1, e2, e3⟩, _⟩ := H9.out _ kk
            clear hF HR HN HC HBAD HGOOD HOK HGR bw HIFF HRW d0 d1 c1 c4
            go_region_held3 (fun x => x.cell? ⟨g9, 0, none⟩ = some (.int .i64 rN) ∧ x.cell? ⟨g9, 1, none⟩ = some (.int .i64 rG) ∧ x.cell? ⟨g, 1, none⟩ = some (.int .i64 ng) ∧ x.cell? ⟨g, 4, none⟩ = some (.slice (some ⟨gp, op, none⟩) n cap))
              (first | exact (H9.out _ kk).1)
              (first
                | (go_at_call 102; refine (segNo_any _ _).mono ?_; rintro e wX ⟨rfl, rfl⟩; rw [hd])
                | (go_at_call 155; refine (HTK.out _ (H9.out _ kk).2.1).mono ?_; rintro e wX ⟨rfl, kX⟩; have kk := kk.trans (kX.mono kk.size); clear kX))
            all_goals
              go_wp2_with fail
              go_meet
              exact ⟨by rw [HFE.out], kk⟩
          case rest =>
            obtain ⟨rfl, k10⟩ := hcut
            cases F with
            | true =>
              have HE := Lib.hid (HBAD.out i _ HGR.out (hF.out.1 rfl))
              have bE := (H9.out _ k10).2.1
              go_wp2
              go_ret
              exact ⟨HE.out, bE⟩
            | false =>
              have HP : Hid (rfAt ng rs i (rN, rG)) := Classical.byContradiction (fun c => by have := hF.out.2 c; cases this)
              have HS : Hid ((∀ (k : Nat) (r : Rf), k < i + 1 → rs[k]? = some r → rfAt ng rs k r) ∧ (i + 1 = 0 → rG = 0) ∧ (∀ p : Rf, 0 < i + 1 → rs[i + 1 - 1]? = some p → rG = p.2) ∧ 0 ≤ rG) := by
                refine ⟨fun q y hq hy => ?_, fun h => by omega, fun p _ hp => ?_, by have := HP.out.2.1.1; simp only at this; omega⟩
                · rcases Nat.lt_succ_iff_lt_or_eq.1 hq with h | rfl
                  · exact HOK.out.1 q y h hy
                  · have e := Option.some.inj (hy.symm.trans HGR.out); rw [e]; exact HP.out
                · rw [Nat.add_sub_cancel] at hp
                  have e := Option.some.inj (hp.symm.trans HGR.out)
                  rw [e]
              obtain ⟨⟨d0, d1, c1, c4⟩, _, bX⟩ := H9.out _ k10
              clear hF k10 HIFF
              go_wp2
              go_roundw
              case rel => exact ⟨i + 1, rG, by omega, rfl, by go_num, HS, bX⟩
              case measure => simp [intOf]; omega
        · have hge : ¬ (i : Int) < (n : Int) := by omega
          have HE := Lib.hid (HGOOD.out (fun k r hr => HOK.out.1 k r (by have := (List.getElem?_eq_some_iff.1 hr).1; rw [HN.out] at this; omega) hr))
          clear c0 c1 c2 c3 c4
          go_wp2
          go_ret
          exact ⟨HE.out, bw⟩


end Go.Proofs.YtieenkloiicnkaaGreatDoor

/- strings.Builder beside other memory: WriteString writes into the builder and its own buffer alone. -/
namespace Go.Proofs.YtieenkloiicnkaaGreatDoor
open Go.RowKit Go.Shelf

/-- All blocks below B but b are as they were. -/
structure BelBut (B b : Nat) (w w' : World) : Prop where
  os : w'.os = w.os
  tape : w'.tape = w.tape
  output : w'.output = w.output
  size : w.heap.size ≤ w'.heap.size
  block : ∀ k, k < B → k ≠ b → w'.heap[k]? = w.heap[k]?
theorem BelBut.refl (B b : Nat) (w : World) : BelBut B b w w := ⟨rfl, rfl, rfl, Nat.le_refl _, fun _ _ _ => rfl⟩
theorem BelBut.trans {B b : Nat} {u v w : World} (h : BelBut B b u v) (k : BelBut B b v w) : BelBut B b u w :=
  ⟨k.os.trans h.os, k.tape.trans h.tape, k.output.trans h.output, Nat.le_trans h.size k.size, fun q h1 h2 => (k.block q h1 h2).trans (h.block q h1 h2)⟩
theorem BelBut.of_below {B b : Nat} {u v : World} (h : Below u.heap.size u v) (hB : B ≤ u.heap.size) : BelBut B b u v :=
  ⟨h.os, h.tape, h.output, h.size, fun q h1 _ => h.block q (by omega)⟩
theorem BelBut.below {B b C : Nat} {u v : World} (h : BelBut B b u v) (h1 : C ≤ b) (h2 : C ≤ B) : Below C u v :=
  ⟨h.os, h.tape, h.output, h.size, fun q hq => h.block q (by omega) (by omega)⟩
theorem BelBut.grown {B b : Nat} {u v : World} {r : Option Nat} (h : u.grownBy v r) (hB : B ≤ u.heap.size) (hr : ∀ k, r = some k → B ≤ k ∨ k = b) : BelBut B b u v :=
  ⟨h.os, h.tape, h.output, h.size, fun q h1 h2 => h.block q (by omega) (fun e => by rcases hr q e.symm with e1 | e1 <;> omega)⟩

/-- A builder in the block b, its buffer from block B on. -/
def Bld (B b : Nat) (bs : List Value) (w : World) : Prop := b < B ∧ ∃ p v, (p = .pointer none ∨ p = .pointer (some ⟨b, 0, none⟩)) ∧ Box w b #[p, v] 164 ∧ w.ownsRow B 5 1 v bs.length bs
theorem Bld.later {B b : Nat} {bs : List Value} {w w' : World} (h : Bld B b bs w) (hb : Below w.heap.size w w') : Bld B b bs w' := by
  obtain ⟨h1, p, v, h2, h3, h4⟩ := h
  have hg : w.grownBy w' none := ⟨hb.os, hb.tape, hb.output, hb.size, fun k hk _ => hb.block k hk⟩
  refine ⟨h1, p, v, h2, h3.later hb, h4.kept hg ?_⟩
  cases hv : v.ownBlock with
  | none => exact .inl rfl
  | some k => exact .inr (by simp)
/-- As the library has it. -/
theorem Bld.is {B b : Nat} {bs : List Value} {w : World} (h : Bld B b bs w) : Lib.IsBuilder 164 5 b b bs w := by
  obtain ⟨h1, p, v, h2, h3, h4⟩ := h
  have h5 : w.ownsRow b 5 1 v bs.length bs := by
    rcases h4 with ⟨e, h | ⟨g, cap, cur, a, c, d⟩⟩
    · exact ⟨e, .inl h⟩
    · exact ⟨e, .inr ⟨g, cap, cur, a, by omega, d⟩⟩
  have h6 : v.ownBlock ≠ some b := fun e => by have := (h4.lt b e).1; omega
  rcases h2 with rfl | rfl
  · exact .inl ⟨Nat.le_refl _, v, h3, h5, h6⟩
  · exact .inr ⟨Nat.le_refl _, v, h3, h5, h6⟩

set_option maxHeartbeats 2000000 in
set_option maxRecDepth 100000 in
theorem bldWrite2 (B b : Nat) (bs : List Value) (s : ByteArray) (w : World) (h : Bld B b bs w) (hlen : bs.length + s.size ≤ 140737488355328) (hBw : B ≤ w.heap.size) :
    Calls Tryz.prog 123 #[.pointer (some ⟨b, 0, none⟩), .string s] w fun e w' => e = .returned (.tuple #[.int .i64 s.size, .nilIface]) ∧ Bld B b (bs ++ Lib.strCells s) w' ∧ BelBut B b w w' := by
  obtain ⟨i0, hi, hz0, hz1, hz2⟩ := info_parts bldExtra.infoByte
  have HCC : Calls Tryz.prog 156 #[.pointer (some ⟨b, 0, none⟩)] w fun e w' => e = .returned (.tuple #[]) ∧ (∃ v, Box w' b #[.pointer (some ⟨b, 0, none⟩), v] 164 ∧ w'.ownsRow B 5 1 v bs.length bs) ∧ BelBut B b w w' := by
    obtain ⟨h1, p, v, h2, h3, h4⟩ := h
    rcases h2 with rfl | rfl
    · refine (copyCheck_fresh b w (h3.cell 0 _ rfl) (by have h3' : w.heap[b]? = some (.cells #[.pointer none, v] 164 (0, 0)) := h3; simp [World.shape?, h3']) (h3.loose 0)).mono ?_
      rintro e w' ⟨rfl, rfl⟩
      exact ⟨rfl, ⟨v, h3.set 0 _, h4.kept (stored_grown w b 0 _) (.inr (fun e => by have := (h4.lt b e).1; omega))⟩, BelBut.grown (stored_grown w b 0 _) hBw (fun k hk => .inr (Option.some.inj hk).symm)⟩
    · refine (copyCheck_used b w (h3.cell 0 _ rfl)).mono ?_
      rintro e w' ⟨rfl, rfl⟩
      exact ⟨rfl, ⟨v, h3, h4⟩, BelBut.refl B b _⟩
  have hbB := h.1
  clear h
  go_enter Tryz.func123, Tryz.ntmps123
  go_wp2_with (go_at_call 156; refine HCC.mono ?_)
  rintro e w1 ⟨rfl, ⟨v, hbk, hown⟩, hb1⟩
  have c0 := hbk.cell 0 _ rfl
  have c1 := hbk.cell 1 _ rfl
  have hs1 := hb1.size
  clear HCC
  go_wp2_with (at_builtin; refine Lib.wpList_append_own_string _ rfl _ _ 157 9 rfl B 5 i0 Tryz.underlying157 Tryz.underlying9 hi hz0 hz1 hz2 _ _ _ rfl hown s rfl ?c3 ?c4 ?c5 ?_)
  case c3 => unfold maxLen; omega
  case c4 => omega
  case c5 => omega
  intro v' w2 hown' hgrow _
  have hb2 : Box w2 b #[.pointer (some ⟨b, 0, none⟩), v] 164 := (hgrow.block b hbk.lt (fun e => by have := (hown.lt b e.symm).1; omega)).trans hbk
  have d0 := hb2.cell 0 _ rfl
  have d1 := hb2.cell 1 _ rfl
  have f1 := hb2.loose 1
  obtain ⟨ao, n', cap, rfl⟩ : ∃ ao n' cap, v' = .slice ao n' cap := by
    rcases hown'.2 with ⟨hv, _⟩ | ⟨g, cap, cur, hv, _⟩
    · exact ⟨_, _, _, hv⟩
    · exact ⟨_, _, _, hv⟩
  have own2 : w2.ownsRow B 5 1 (.slice ao n' cap) (bs ++ Lib.strCells s).length (bs ++ Lib.strCells s) := by simpa [Lib.strCells_length] using hown'
  have HF : Hid (Bld B b (bs ++ Lib.strCells s) (w2.setCell ⟨b, 1, none⟩ (.slice ao n' cap)) ∧ BelBut B b w (w2.setCell ⟨b, 1, none⟩ (.slice ao n' cap))) := by
    refine ⟨⟨hbB, _, _, .inr rfl, hb2.set 1 _, own2.kept (stored_grown w2 b 1 _) (.inr (fun e => by have := (own2.lt b e).1; omega))⟩, ?_⟩
    have k2 : BelBut B b w1 w2 := BelBut.grown hgrow (by omega) (fun k hk => .inl (hown.lt k hk).1)
    have k3 : BelBut B b w2 (w2.setCell ⟨b, 1, none⟩ (.slice ao n' cap)) := BelBut.grown (stored_grown w2 b 1 _) (by have := k2.size; omega) (fun k hk => .inr (Option.some.inj hk).symm)
    exact (hb1.trans k2).trans k3
  clear own2 hown' hgrow hown hbk hb2 hb1
  go_wp2
  go_ret2
  exact ⟨rfl, HF.out.1, HF.out.2⟩

end Go.Proofs.YtieenkloiicnkaaGreatDoor

/- Plain facts on bits, as the walk spells them: groups of seven bits put together. -/
namespace Go.Proofs.YtieenkloiicnkaaGreatDoor
open Go.RowKit

theorem i64_or_nat (a b : Nat) (ha : a < 9223372036854775808) (hb : b < 9223372036854775808) : bits .or .i64 (a : Int) (b : Int) = ((a ||| b : Nat) : Int) := by
  have h : a ||| b < 2 ^ 63 := Nat.or_lt_two_pow ha hb
  have ea : BitVec.ofInt 64 (a : Int) = BitVec.ofNat 64 a := by simp
  have eb : BitVec.ofInt 64 (b : Int) = BitVec.ofNat 64 b := by simp
  have e : (BitVec.ofNat 64 a ||| BitVec.ofNat 64 b).toNat = a ||| b := by
    rw [BitVec.toNat_or, BitVec.toNat_ofNat, BitVec.toNat_ofNat, Nat.mod_eq_of_lt (by omega), Nat.mod_eq_of_lt (by omega)]
  show IntKind.i64.wrap (((BitVec.ofInt 64 (a : Int) ||| BitVec.ofInt 64 (b : Int)).toNat : Nat) : Int) = _
  rw [ea, eb, e, IntWalk.i64_in _ ⟨by omega, by omega⟩]

theorem or_shifted (n c i : Nat) (hn : n < 128 ^ i) : n ||| c * 128 ^ i = n + c * 128 ^ i := by
  have e : (128 : Nat) ^ i = 2 ^ (7 * i) := by rw [Nat.pow_mul]
  rw [e] at hn ⊢
  have := Nat.shiftLeft_add_eq_or_of_lt hn c
  rw [Nat.shiftLeft_eq] at this
  rw [Nat.or_comm, ← this, Nat.add_comm]

theorem group_or (n c i : Nat) (hn : n < 128 ^ i) (hi : i < 5) (hc : c < 256) :
    bits .or .i64 (n : Int) (wrap64 (wrap64 (bits .and .u8 (c : Int) 127) * 2 ^ (7 * i))) = ((n + c % 128 * 128 ^ i : Nat) : Int) := by
  have h1 : bits .and .u8 (c : Int) 127 = ((c % 128 : Nat) : Int) := by
    have := u8_and_nat c 127 hc (by decide)
    rw [Nat.and_two_pow_sub_one_eq_mod c 7] at this
    exact this
  have hp : (128 : Nat) ^ i ≤ 128 ^ 4 := Nat.pow_le_pow_right (by decide) (by omega)
  have hm : c % 128 * 128 ^ i ≤ 127 * 128 ^ 4 := Nat.mul_le_mul (by omega) hp
  have e : (2 : Int) ^ (7 * i) = ((128 ^ i : Nat) : Int) := by rw [Int.natCast_pow, Int.pow_mul]; rfl
  have w1 : wrap64 ((c % 128 : Nat) : Int) = ((c % 128 : Nat) : Int) := IntWalk.wrap64_in _ ⟨by omega, by omega⟩
  have w2 : wrap64 ((c % 128 * 128 ^ i : Nat) : Int) = ((c % 128 * 128 ^ i : Nat) : Int) := IntWalk.wrap64_in _ ⟨by omega, by omega⟩
  rw [h1, w1, e, ← Int.natCast_mul, w2, i64_or_nat _ _ (by omega) (by omega), or_shifted _ _ _ hn]

theorem group_add (n c i : Nat) (hn : n < 128 ^ i) (hi : i < 5) :
    wrap64 ((n : Int) + wrap64 ((c : Int) % 128 * 128 ^ i)) = ((n + c % 128 * 128 ^ i : Nat) : Int) := by
  have hp : (128 : Nat) ^ i ≤ 128 ^ 4 := Nat.pow_le_pow_right (by decide) (by omega)
  have hm : c % 128 * 128 ^ i ≤ 127 * 128 ^ 4 := Nat.mul_le_mul (by omega) hp
  have e : (c : Int) % 128 * 128 ^ i = ((c % 128 * 128 ^ i : Nat) : Int) := by simp
  have w2 : wrap64 ((c % 128 * 128 ^ i : Nat) : Int) = ((c % 128 * 128 ^ i : Nat) : Int) := IntWalk.wrap64_in _ ⟨by omega, by omega⟩
  have w3 : wrap64 ((n + c % 128 * 128 ^ i : Nat) : Int) = ((n + c % 128 * 128 ^ i : Nat) : Int) := IntWalk.wrap64_in _ ⟨by omega, by omega⟩
  rw [e, w2, ← Int.natCast_add, w3]

theorem scale_next (i : Nat) (hi : i < 5) : wrap64 ((128 : Int) ^ i * 128) = ((128 ^ (i + 1) : Nat) : Int) := by
  have hp : (128 : Nat) ^ (i + 1) ≤ 128 ^ 5 := Nat.pow_le_pow_right (by decide) (by omega)
  have e : (128 : Int) ^ i * 128 = ((128 ^ (i + 1) : Nat) : Int) := by rw [Nat.pow_succ]; simp
  rw [e]
  generalize (128 : Nat) ^ (i + 1) = x at hp ⊢
  exact IntWalk.wrap64_in _ ⟨by omega, by omega⟩

end Go.Proofs.YtieenkloiicnkaaGreatDoor
