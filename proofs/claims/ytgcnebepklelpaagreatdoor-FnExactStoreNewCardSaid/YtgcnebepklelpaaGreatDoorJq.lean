/- Texts of our own, joined. -/
import Derived.Test.YtgcnebepklelpaaGreatDoorProg
import Derived.Test.YtgcnebepklelpaaGreatDoorJb
import Derived.WalkKit
import Derived.LaidEql
import Derived.Stop.Asserts
import Derived.RowKitTokens
import Derived.Laws.Cells
import Derived.Test.YtgcnebepklelpaaGreatDoorJp
import Derived.Deep.DeepCutAuto
import Derived.Deep.QuietTactic
import Derived.Deep.RegionHeld3
import Derived.BigQuiet
import Derived.WalkSmall
import Derived.Test.YtgcnebepklelpaaGreatDoorJh
import Derived.Test.YtgcnebepklelpaaGreatDoorJa
import Derived.Test.YtgcnebepklelpaaGreatDoorJk
import Derived.Laws.Concat
/- errors.As at a target of the type fault: of no error it is false; of a fault it is true, and the target has it. -/
namespace Go.Proofs.YtgcnebepklelpaaGreatDoor
open Go.RowKit Go.Extern.Stop Go.Stop Go.Extern

def ErrTab (w : World) : Prop := w.cell? ⟨0, 0, none⟩ = some (.iface 152 (.agg #[.pointer (some ⟨2, 57, none⟩)]))

theorem as_nil (t : Value) (w : World) :
    Calls Tryz.prog 49 #[.nilIface, t] w fun e w' => e = .returned (.bool false) ∧ w = w' := by
  go_enter Tryz.func49, Tryz.ntmps49
  go_wp2
  go_ret
  exact ⟨rfl, rfl⟩

theorem rl_valueP (t : Addr) (w : World) : (ReflectliteValue.unpack (.iface 92 (.pointer (some t)))).run Tryz.prog w
    = .ok (.agg #[.pointer (some ⟨2, 92, none⟩), .pointer (some ⟨w.heap.size, 0, none⟩), .int .u64 150]) (w.alloc (.cells #[.pointer (some t)] 92)) := by kernel_rfl
theorem rl_typeP (a : Addr) (w : World) : (ReflectliteValue.methodAny (ReflectliteValue.valueError "reflectlite.Value.Type" 0) (fun t _ _ _ => ReflectliteType.toType t) #[.agg #[.pointer (some ⟨2, 92, none⟩), .pointer (some a), .int .u64 150]]).run Tryz.prog w
    = .ok (.iface 152 (.agg #[.pointer (some ⟨2, 92, none⟩)])) w := by kernel_rfl
theorem rl_methodKind (k : Nat) (h : Value) (w : World) : (Go.method (k + 1) 152 (.agg #[h]) "Kind").run Tryz.prog w = .ok (143, h) w := by kernel_rfl
theorem rl_kindP (w : World) : ((ReflectliteType.abiMethod fun t => (fun a : Nat => Value.int IntKind.u8 (a : Int)) <$> Rtype.kind t) #[.pointer (some ⟨2, 92, none⟩)]).run Tryz.prog w = .ok (.int .u8 22) w := by kernel_rfl
theorem rl_kindS (w : World) : ((ReflectliteType.abiMethod fun t => (fun a : Nat => Value.int IntKind.u8 (a : Int)) <$> Rtype.kind t) #[.pointer (some ⟨2, 90, none⟩)]).run Tryz.prog w = .ok (.int .u8 25) w := by kernel_rfl

theorem rlm (z : Sem Value) (f : TypeId → Addr → Nat → Nat → Sem Value) (v : Value) :
    ReflectliteValue.method z f #[v] = (do match ← ReflectliteValue.parts v with | none => z | some (t, a, fl) => f t a fl (fl % 32)) := rfl
theorem rl_partsP (a : Addr) (w : World) : (ReflectliteValue.parts (.agg #[.pointer (some ⟨2, 92, none⟩), .pointer (some a), .int .u64 150])).run Tryz.prog w = .ok (some (92, a, 150)) w := by kernel_rfl
theorem rl_isNil (a p : Addr) (W : World) (ha : W.cell? a = some (.pointer (some p))) :
    (ReflectliteValue.method (ReflectliteValue.valueError "reflectlite.Value.IsNil" 0) ReflectliteValue.isNil #[.agg #[.pointer (some ⟨2, 92, none⟩), .pointer (some a), .int .u64 150]]).run Tryz.prog W = .ok (.bool false) W := by
  rw [rlm]
  simp only [Sem.run_bind, rl_partsP, Result.andThen]
  simp [ReflectliteValue.isNil, loadVar, isAgg, underlying, Tryz.underlying92, ha, Result.andThen]

theorem rl_methodElem (k : Nat) (h : Value) (w : World) : (Go.method (k + 1) 152 (.agg #[h]) "Elem").run Tryz.prog w = .ok (155, .agg #[h]) w := by kernel_rfl
theorem rl_methodImplements (k : Nat) (h : Value) (w : World) : (Go.method (k + 1) 152 (.agg #[h]) "Implements").run Tryz.prog w = .ok (156, .agg #[h]) w := by kernel_rfl
theorem rl_methodAssignableTo (k : Nat) (h : Value) (w : World) : (Go.method (k + 1) 152 (.agg #[h]) "AssignableTo").run Tryz.prog w = .ok (153, .agg #[h]) w := by kernel_rfl
theorem rl_elemP (w : World) : (ReflectliteType.method ReflectliteType.elem #[.agg #[.pointer (some ⟨2, 92, none⟩)]]).run Tryz.prog w = .ok (.iface 152 (.agg #[.pointer (some ⟨2, 90, none⟩)])) w := by kernel_rfl
theorem rl_implements (w : World) : (ReflectliteType.relation "Implements" ReflectliteType.implements_ #[.agg #[.pointer (some ⟨2, 90, none⟩)], .iface 152 (.agg #[.pointer (some ⟨2, 57, none⟩)])]).run Tryz.prog w = .ok (.bool true) w := by kernel_rfl
theorem rl_typeOf (v : Value) (w : World) : (ReflectliteType.typeOf #[.iface 90 v]).run Tryz.prog w = .ok (.iface 152 (.agg #[.pointer (some ⟨2, 90, none⟩)])) w := by kernel_rfl
theorem rl_assignable (w : World) : (ReflectliteType.relation "AssignableTo" ReflectliteType.assignableTo #[.agg #[.pointer (some ⟨2, 90, none⟩)], .iface 152 (.agg #[.pointer (some ⟨2, 90, none⟩)])]).run Tryz.prog w = .ok (.bool true) w := by kernel_rfl
theorem rl_valueS (c : Int) (w : World) : (ReflectliteValue.unpack (.iface 90 (.agg #[.int .i64 c]))).run Tryz.prog w
    = .ok (.agg #[.pointer (some ⟨2, 90, none⟩), .pointer (some ⟨w.heap.size, 0, none⟩), .int .u64 153]) (w.alloc (.cells #[.int .i64 c] 90)) := by kernel_rfl

theorem rl_elemOf (w : World) : (Rtype.elem? 92).run Tryz.prog w = .ok (some 90) w := by kernel_rfl
theorem rl_mk (p : Addr) (w : World) : (ReflectliteValue.mk 90 p ReflectliteValue.flagAddr).run Tryz.prog w = .ok (.agg #[.pointer (some ⟨2, 90, none⟩), .pointer (some p), .int .u64 409]) w := by kernel_rfl
theorem rl_elemV (a p : Addr) (W : World) (ha : W.cell? a = some (.pointer (some p))) :
    (ReflectliteValue.method (ReflectliteValue.valueError "reflectlite.Value.Elem" 0) ReflectliteValue.elem #[.agg #[.pointer (some ⟨2, 92, none⟩), .pointer (some a), .int .u64 150]]).run Tryz.prog W
      = .ok (.agg #[.pointer (some ⟨2, 90, none⟩), .pointer (some p), .int .u64 409]) W := by
  rw [rlm]
  simp only [Sem.run_bind, rl_partsP, Result.andThen]
  simp [ReflectliteValue.elem, loadVar, isAgg, underlying, Tryz.underlying92, ha, Result.andThen, rl_elemOf, rl_mk]
theorem rls (v x : Value) : ReflectliteValue.set #[v, x] = (do
    let (some (dst, a, fl), some (src, b, _)) := (← ReflectliteValue.parts v, ← ReflectliteValue.parts x)
      | unsupported (.noEntry "extern/(internal/reflectlite.Value).Set.zeroValue")
    if fl / ReflectliteValue.flagAddr % 2 == 0 then unsupported (.noEntry "extern/(internal/reflectlite.Value).Set.unaddressable")
    let val ← loadVar src b
    if ← Rtype.directlyAssignable dst src then storeVar dst a val
    else if ← Rtype.implements dst src then
      if (← Rtype.kind src) == 20 then
        match val with
        | .nilIface => unsupported (.noEntry "extern/reflectlite: a nil value of one interface type handed on as a value of another")
        | _ => storeVar dst a val
      else storeVar dst a (.iface src val)
    else panicString ("reflectlite.Set: value of type " ++ (← Rtype.spelt src) ++ " is not assignable to type " ++ (← Rtype.spelt dst))
    pure (.tuple #[])) := rfl
theorem rl_partsSa (a : Addr) (w : World) : (ReflectliteValue.parts (.agg #[.pointer (some ⟨2, 90, none⟩), .pointer (some a), .int .u64 409])).run Tryz.prog w = .ok (some (90, a, 409)) w := by kernel_rfl
theorem rl_partsS (a : Addr) (w : World) : (ReflectliteValue.parts (.agg #[.pointer (some ⟨2, 90, none⟩), .pointer (some a), .int .u64 153])).run Tryz.prog w = .ok (some (90, a, 153)) w := by kernel_rfl
theorem rl_direct (w : World) : (Rtype.directlyAssignable 90 90).run Tryz.prog w = .ok true w := by kernel_rfl
theorem rl_load (b : Addr) (c : Int) (W : World) (hb : W.cell? b = some (.int .i64 c)) : (loadVar 90 b).run Tryz.prog W = .ok (.agg #[.int .i64 c]) W := by
  have hl : (loadCells b 1).run Tryz.prog W = .ok #[.int .i64 c] W := run_loadCells_list W b [.int .i64 c] (fun j v h => by
    cases j with
    | zero => simp at h; subst h; simpa [Addr.add] using hb
    | succ j => simp at h)
  simp [loadVar, isAgg, underlying, Tryz.underlying90, Result.andThen, hl]
theorem rl_store (ta : Addr) (c : Int) (old : Value) (W : World) (ht : W.cell? ta = some old) (hf : W.frozen? ta = false) : (storeVar 90 ta (.agg #[.int .i64 c])).run Tryz.prog W = .ok () (W.setCell ta (.int .i64 c)) := by
  simp [storeVar, Result.andThen, Value.cells, storeCells, Addr.add]
  rw [run_store Tryz.prog W ta _ _ (by rfl)]
  simp [ht, hf]
theorem rl_set (ta b : Addr) (c : Int) (old : Value) (W : World) (hb : W.cell? b = some (.int .i64 c)) (ht : W.cell? ta = some old) (hf : W.frozen? ta = false) :
    (ReflectliteValue.set #[.agg #[.pointer (some ⟨2, 90, none⟩), .pointer (some ta), .int .u64 409], .agg #[.pointer (some ⟨2, 90, none⟩), .pointer (some b), .int .u64 153]]).run Tryz.prog W
      = .ok (.tuple #[]) (W.setCell ta (.int .i64 c)) := by
  rw [rls]
  simp only [Sem.run_bind, rl_partsSa, rl_partsS, Result.andThen]
  simp [ReflectliteValue.flagAddr, rl_load b c W hb, Result.andThen, rl_direct, rl_store ta c old W ht hf]

def rvP (w : World) : Array Value := #[.pointer (some ⟨2, 92, none⟩), .pointer (some ⟨w.heap.size, 0, none⟩), .int .u64 150]
def asW (c : Int) (t : Addr) (w : World) : World := ((((w.alloc (.cells #[.pointer (some t)] 92)).alloc (.cells (rvP w) 118)).alloc (.cells (rvP w) 118)).alloc (.cells #[.int .i64 c] 90)).setCell t (.int .i64 c)

set_option maxHeartbeats 4000000 in
theorem as_hit (c : Int) (t : Addr) (old : Value) (w : World) (hg : w.cell? ⟨0, 0, none⟩ = some (.iface 152 (.agg #[.pointer (some ⟨2, 57, none⟩)]))) (ht0 : w.cell? t = some old) (hf0 : w.frozen? t = false) :
    Calls Tryz.prog 49 #[.iface 90 (.agg #[.int .i64 c]), .iface 92 (.pointer (some t))] w fun ev w' => ev = .returned (.bool true) ∧ w' = asW c t w := by
  have h6 := @run_callFunc_extern Tryz.prog 76 _ (fun args => ReflectliteValue.unpack (args.getD 0 (.tuple #[]))) Tryz.func76 (by kernel_rfl) (by kernel_rfl) (by kernel_rfl) (by kernel_rfl)
  have h7 := @run_callFunc_extern Tryz.prog 77 _ (ReflectliteValue.methodAny (ReflectliteValue.valueError "reflectlite.Value.Type" 0) (fun t _ _ _ => ReflectliteType.toType t)) Tryz.func77 (by kernel_rfl) (by kernel_rfl) (by kernel_rfl) (by kernel_rfl)
  have h8 := @run_callFunc_extern Tryz.prog 78 _ (ReflectliteValue.method (ReflectliteValue.valueError "reflectlite.Value.IsNil" 0) ReflectliteValue.isNil) Tryz.func78 (by kernel_rfl) (by kernel_rfl) (by kernel_rfl) (by kernel_rfl)
  have h27 := @run_callFunc_extern Tryz.prog 143 _ (ReflectliteType.abiMethod fun t => do pure (.int .u8 (← Rtype.kind t))) Tryz.func143 (by kernel_rfl) (by kernel_rfl) (by kernel_rfl) (by kernel_rfl)
  have h37 := @run_callFunc_extern Tryz.prog 155 _ (ReflectliteType.method ReflectliteType.elem) Tryz.func155 (by kernel_rfl) (by kernel_rfl) (by kernel_rfl) (by kernel_rfl)
  have h38 := @run_callFunc_extern Tryz.prog 156 _ (ReflectliteType.relation "Implements" ReflectliteType.implements_) Tryz.func156 (by kernel_rfl) (by kernel_rfl) (by kernel_rfl) (by kernel_rfl)
  have h10 := @run_callFunc_extern Tryz.prog 101 _ ReflectliteType.typeOf Tryz.func101 (by kernel_rfl) (by kernel_rfl) (by kernel_rfl) (by kernel_rfl)
  have h35 := @run_callFunc_extern Tryz.prog 153 _ (ReflectliteType.relation "AssignableTo" ReflectliteType.assignableTo) Tryz.func153 (by kernel_rfl) (by kernel_rfl) (by kernel_rfl) (by kernel_rfl)
  have h11 := @run_callFunc_extern Tryz.prog 102 _ (ReflectliteValue.method (ReflectliteValue.valueError "reflectlite.Value.Elem" 0) ReflectliteValue.elem) Tryz.func102 (by kernel_rfl) (by kernel_rfl) (by kernel_rfl) (by kernel_rfl)
  have h12 := @run_callFunc_extern Tryz.prog 103 _ ReflectliteValue.set Tryz.func103 (by kernel_rfl) (by kernel_rfl) (by kernel_rfl) (by kernel_rfl)
  have tO := rl_typeOf
  have mA := rl_methodAssignableTo
  have a25 := rl_assignable
  have v25 := rl_valueS
  have f6 := rl_valueP
  have f7 := rl_typeP
  have mK := rl_methodKind
  have mE := rl_methodElem
  have mI := rl_methodImplements
  have k27 := rl_kindP
  have k25 := rl_kindS
  have e27 := rl_elemP
  have i25 := rl_implements
  have n8 := rl_isNil ⟨w.heap.size, 0, none⟩ t ((w.alloc (.cells #[.pointer (some t)] 92)).alloc (.cells #[.pointer (some ⟨2, 92, none⟩), .pointer (some ⟨w.heap.size, 0, none⟩), .int .u64 150] 118)) (by simp)
  have hlt : 0 < w.heap.size := World.block_lt_of_cell? _ _ hg
  have hg2 : ((w.alloc (.cells #[.pointer (some t)] 92)).alloc (.cells #[.pointer (some ⟨2, 92, none⟩), .pointer (some ⟨w.heap.size, 0, none⟩), .int .u64 150] 118)).cell? ⟨0, 0, none⟩ = some (.iface 152 (.agg #[.pointer (some ⟨2, 57, none⟩)])) := by
    rw [World.cell?_alloc_lt _ _ ⟨0, 0, none⟩ (by simp <;> omega), World.cell?_alloc_lt _ _ ⟨0, 0, none⟩ hlt]; exact hg
  have htl : t.block < w.heap.size := World.block_lt_of_cell? _ _ ht0
  have el := rl_elemV ⟨w.heap.size, 0, none⟩ t (((w.alloc (.cells #[.pointer (some t)] 92)).alloc (.cells #[.pointer (some ⟨2, 92, none⟩), .pointer (some ⟨w.heap.size, 0, none⟩), .int .u64 150] 118)).alloc (.cells #[.pointer (some ⟨2, 92, none⟩), .pointer (some ⟨w.heap.size, 0, none⟩), .int .u64 150] 118)) (by rw [World.cell?_alloc_lt _ _ ⟨w.heap.size, 0, none⟩ (by simp; omega)]; simp)
  have st := rl_set t ⟨w.heap.size + 1 + 1 + 1, 0, none⟩ c old ((((w.alloc (.cells #[.pointer (some t)] 92)).alloc (.cells #[.pointer (some ⟨2, 92, none⟩), .pointer (some ⟨w.heap.size, 0, none⟩), .int .u64 150] 118)).alloc (.cells #[.pointer (some ⟨2, 92, none⟩), .pointer (some ⟨w.heap.size, 0, none⟩), .int .u64 150] 118)).alloc (.cells #[.int .i64 c] 90))
    (by rw [World.cell?_alloc_at _ _ _ _ (by simp)]; rfl)
    (by rw [World.cell?_alloc_lt _ _ t (by simp; omega), World.cell?_alloc_lt _ _ t (by simp; omega), World.cell?_alloc_lt _ _ t (by simp; omega), World.cell?_alloc_lt _ _ t htl]; exact ht0)
    (by rw [World.frozen?_alloc_old _ _ t (by simp; omega), World.frozen?_alloc_old _ _ t (by simp; omega), World.frozen?_alloc_old _ _ t (by simp; omega), World.frozen?_alloc_old _ _ t (Nat.ne_of_lt htl)]; exact hf0)
  go_enter Tryz.func49, Tryz.ntmps49
  go_wp2
  refine wp_loop_rounds 1 ?_
  rw [rounds_succ]
  go_wp2
  go_ret
  exact ⟨rfl, rfl⟩

theorem asW_below (c : Int) (g : Nat) (w0 w : World) (hb : Below w0.heap.size w0 w) (hg : w0.heap.size ≤ g) : Below w0.heap.size w0 (asW c ⟨g, 0, none⟩ w) := by
  unfold asW
  exact ((((hb.alloc hb.size _).alloc (hb.alloc hb.size _).size _).alloc ((hb.alloc hb.size _).alloc (hb.alloc hb.size _).size _).size _).alloc (((hb.alloc hb.size _).alloc (hb.alloc hb.size _).size _).alloc ((hb.alloc hb.size _).alloc (hb.alloc hb.size _).size _).size _).size _).setCell (p := ⟨g, 0, none⟩) hg _

set_option maxRecDepth 100000 in
theorem codeOf_nil (w : World) : Calls Tryz.prog 27 #[.nilIface] w fun e w' => e = .returned (.int .i64 0) ∧ Below w.heap.size w w' := by
  have b0 := belNew w (.cells #[.int .i64 0] 90)
  go_enter Tryz.func27, Tryz.ntmps27
  go_wp2_with (go_at_call 49; refine (as_nil _ _).mono ?_; rintro e w1 ⟨rfl, rfl⟩)
  go_ret
  exact ⟨rfl, b0⟩

set_option maxRecDepth 100000 in
theorem codeOf_fault (c : Int) (w : World) (h : ErrTab w) : Calls Tryz.prog 27 #[.iface 90 (.agg #[.int .i64 c])] w fun e w' => e = .returned (.int .i64 c) ∧ Below w.heap.size w w' := by
  have b0 := belNew w (.cells #[.int .i64 0] 90)
  have hg : (w.alloc (.cells #[.int .i64 0] 90)).cell? ⟨0, 0, none⟩ = some (.iface 152 (.agg #[.pointer (some ⟨2, 57, none⟩)])) := (b0.cell (p := ⟨0, 0, none⟩) (World.block_lt_of_cell? _ _ h)).trans h
  have X0 := Box.new w #[.int .i64 0] 90
  have HA := Lib.hid (as_hit c ⟨w.heap.size, 0, none⟩ _ _ hg (X0.cell 0 _ rfl) (X0.loose 0))
  have HB := Lib.hid (asW_below c w.heap.size w _ b0 (Nat.le_refl _))
  have HX : Hid ((asW c ⟨w.heap.size, 0, none⟩ (w.alloc (.cells #[.int .i64 0] 90))).cell? ⟨w.heap.size, 0, none⟩ = some (.int .i64 c)) := by
    show _ = _
    unfold asW
    have X4 := (((X0.later (belNew _ (.cells #[.pointer (some ⟨w.heap.size, 0, none⟩)] 92))).later (belNew _ (.cells (rvP (w.alloc (.cells #[.int .i64 0] 90))) 118))).later (belNew _ (.cells (rvP (w.alloc (.cells #[.int .i64 0] 90))) 118))).later (belNew _ (.cells #[.int .i64 c] 90))
    exact (X4.set 0 (.int .i64 c)).cell 0 _ rfl
  clear X0 hg b0 h
  go_enter Tryz.func27, Tryz.ntmps27
  go_wp2_with fail
  refine HA.out.mono ?_
  rintro e w1 ⟨rfl, rfl⟩
  have hx := HX.out
  generalize asW c ⟨w.heap.size, 0, none⟩ (w.alloc (.cells #[.int .i64 0] 90)) = W at hx HB ⊢
  clear HA HX
  go_wp2
  go_ret
  exact ⟨rfl, HB.out⟩

end Go.Proofs.YtgcnebepklelpaaGreatDoor

/- CheckOk of the program: what is wrong with a check is a fault with a code. -/
namespace Go.Proofs.YtgcnebepklelpaaGreatDoor
open Go.RowKit

theorem segNo_any (s : Int) (w : World) :
    Calls Tryz.prog 44 #[.int .i64 s] w fun e w' => e = .returned (.bool (decide (0 ≤ s ∧ s ≤ 10))) ∧ w = w' := by
  by_cases h1 : 0 ≤ s
  · have g2 : decide (s < 11) = decide (0 ≤ s ∧ s ≤ 10) := decide_eq_decide.2 ⟨fun h => ⟨h1, by omega⟩, fun h => by omega⟩
    rw [← g2]
    clear g2
    go_enter Tryz.func44, Tryz.ntmps44
    go_wp2
    go_ret
    exact ⟨rfl, rfl⟩
  · rw [decide_eq_false (show ¬ (0 ≤ s ∧ s ≤ 10) by omega)]
    go_enter Tryz.func44, Tryz.ntmps44
    go_wp2
    go_ret
    exact ⟨rfl, rfl⟩
theorem segNo_q {s : Int} {D : Bool} (hd : decide (0 ≤ s ∧ s ≤ 10) = D) (w : World) : Calls Tryz.prog 44 #[.int .i64 s] w fun e w' => e = .returned (.bool D) ∧ w' = w :=
  (segNo_any s w).mono fun _ _ h => ⟨by rw [← hd]; exact h.1, h.2.symm⟩

theorem sliceTo_run {g o n cap i : Nat} (h : i ≤ cap) (wx : World) : (Instr.slice 49 (.slice (some ⟨g, o, none⟩) n cap) none (some (.int .i64 (i : Int))) none).run Tryz.prog wx = .ok (.slice (some ⟨g, o, none⟩) i cap) wx := by
  rw [run_slice_h (P := Tryz.prog) wx 49 _ n cap (by kernel_rfl) .i64 (i : Int) (by omega) (by omega)]
  rw [show Tryz.prog.elem 49 = 80 by kernel_rfl, Tryz.sizeOf80]
  simp [Result.andThen, sliced, Addr.add]

def numAt (st ng ns nv : Int) (i : Nat) : Int := if i = 0 then st else if i = 1 then ng else if i = 2 then ns else nv

theorem numAt_run0 (st ng ns nv : Int) (wx : World) : (Instr.index 171 (.agg #[.int .i64 st, .int .i64 ng, .int .i64 ns, .int .i64 nv]) (.int .i64 0)).run Tryz.prog wx = .ok (.int .i64 st) wx := by kernel_rfl
theorem numAt_run1 (st ng ns nv : Int) (wx : World) : (Instr.index 171 (.agg #[.int .i64 st, .int .i64 ng, .int .i64 ns, .int .i64 nv]) (.int .i64 1)).run Tryz.prog wx = .ok (.int .i64 ng) wx := by kernel_rfl
theorem numAt_run2 (st ng ns nv : Int) (wx : World) : (Instr.index 171 (.agg #[.int .i64 st, .int .i64 ng, .int .i64 ns, .int .i64 nv]) (.int .i64 2)).run Tryz.prog wx = .ok (.int .i64 ns) wx := by kernel_rfl
theorem numAt_run3 (st ng ns nv : Int) (wx : World) : (Instr.index 171 (.agg #[.int .i64 st, .int .i64 ng, .int .i64 ns, .int .i64 nv]) (.int .i64 3)).run Tryz.prog wx = .ok (.int .i64 nv) wx := by kernel_rfl
theorem numAt_run (st ng ns nv : Int) {i : Nat} (h : i < 4) (wx : World) : (Instr.index 171 (.agg #[.int .i64 st, .int .i64 ng, .int .i64 ns, .int .i64 nv]) (.int .i64 (i : Int))).run Tryz.prog wx = .ok (.int .i64 (numAt st ng ns nv i)) wx := by
  have : i = 0 ∨ i = 1 ∨ i = 2 ∨ i = 3 := by omega
  rcases this with rfl | rfl | rfl | rfl
  · exact numAt_run0 st ng ns nv wx
  · exact numAt_run1 st ng ns nv wx
  · exact numAt_run2 st ng ns nv wx
  · exact numAt_run3 st ng ns nv wx

def WrongC (c : Ck) (e : Ending) : Prop := (c.ok ∧ e = .returned .nilIface) ∨ (¬ c.ok ∧ ∃ k : Int, (k = 1 ∨ k = 2) ∧ e = .returned (.iface 90 (.agg #[.int .i64 k])))
set_option maxRecDepth 100000 in
set_option maxHeartbeats 8000000 in
theorem wrongWith_any (c : Ck) (a : Option Addr) (cap : Nat) (w : World) (h : Rows' rfE w (.slice a c.refs.length cap) c.refs) (hl : c.refs.length ≤ 1048576) :
    Calls Tryz.prog 92 #[.agg #[.int .i64 c.st, .int .i64 c.ng, .int .i64 c.ns, .int .i64 c.nv, .slice a c.refs.length cap]] w fun e w' => WrongC c e ∧ Below w.heap.size w w' := by
  have HRW := Lib.hid h
  obtain ⟨_, _, hv, hrow⟩ := h.refs
  cases hv
  have HR := Lib.hid hrow
  clear h hrow
  have HYES : Hid (c.ok → WrongC c (.returned .nilIface)) := fun h => .inl ⟨h, rfl⟩
  have HNO : Hid (¬ c.ok → ∀ k : Int, (k = 1 ∨ k = 2) → WrongC c (.returned (.iface 90 (.agg #[.int .i64 k])))) := fun h k hk => .inr ⟨h, k, hk, rfl⟩
  obtain ⟨st, ng, ns, nv, rs⟩ := c
  generalize WrongC ⟨st, ng, ns, nv, rs⟩ = A at HYES HNO ⊢
  replace HYES : Hid (((numIn st ∧ numIn ng ∧ numIn ns ∧ numIn nv) ∧ (1 ≤ rs.length ∧ rs.length ≤ 11) ∧ ∀ (i : Nat) (r : Rf), rs[i]? = some r → rfAt ng rs i r) → A (.returned .nilIface)) := HYES
  replace HNO : Hid (¬ ((numIn st ∧ numIn ng ∧ numIn ns ∧ numIn nv) ∧ (1 ≤ rs.length ∧ rs.length ≤ 11) ∧ ∀ (i : Nat) (r : Rf), rs[i]? = some r → rfAt ng rs i r) → ∀ k : Int, (k = 1 ∨ k = 2) → A (.returned (.iface 90 (.agg #[.int .i64 k])))) := HNO
  simp only at hl HR HRW ⊢
  obtain ⟨n, hn⟩ : ∃ n, rs.length = n := ⟨_, rfl⟩
  rw [hn] at hl HYES HNO HRW ⊢
  have HN := Lib.hid hn
  clear hn
  have X0 := Box.new w #[.int .i64 st, .int .i64 ng, .int .i64 ns, .int .i64 nv, .slice a n cap] 51
  have b0 := belNew w (.cells #[.int .i64 st, .int .i64 ng, .int .i64 ns, .int .i64 nv, .slice a n cap] 51)
  have HC : Hid (∀ x, Below (w.alloc (.cells #[.int .i64 st, .int .i64 ng, .int .i64 ns, .int .i64 nv, .slice a n cap] 51)).heap.size (w.alloc (.cells #[.int .i64 st, .int .i64 ng, .int .i64 ns, .int .i64 nv, .slice a n cap] 51)) x → (x.cell? ⟨w.heap.size, 0, none⟩ = some (.int .i64 st) ∧ x.cell? ⟨w.heap.size, 1, none⟩ = some (.int .i64 ng) ∧ x.cell? ⟨w.heap.size, 2, none⟩ = some (.int .i64 ns) ∧ x.cell? ⟨w.heap.size, 3, none⟩ = some (.int .i64 nv) ∧ x.cell? ⟨w.heap.size, 4, none⟩ = some (.slice a n cap)) ∧ Below w.heap.size w x) := fun x hx => by
    obtain ⟨x0, x1, x2, x3, x4, _⟩ := (X0.later hx).fiveC
    exact ⟨⟨x0, x1, x2, x3, x4⟩, b0.trans (hx.mono b0.size)⟩
  clear X0 b0
  go_enter Tryz.func92, Tryz.ntmps92
  go_upto_region 1 with fail
  generalize w.alloc (.cells #[.int .i64 st, .int .i64 ng, .int .i64 ns, .int .i64 nv, .slice a n cap] 51) = W at HC ⊢
  obtain ⟨g, hg⟩ : ∃ g, w.heap.size = g := ⟨_, rfl⟩
  rw [hg] at HC
  replace HC : Hid (∀ x, Below W.heap.size W x → (x.cell? ⟨g, 0, none⟩ = some (.int .i64 st) ∧ x.cell? ⟨g, 1, none⟩ = some (.int .i64 ng) ∧ x.cell? ⟨g, 2, none⟩ = some (.int .i64 ns) ∧ x.cell? ⟨g, 3, none⟩ = some (.int .i64 nv) ∧ x.cell? ⟨g, 4, none⟩ = some (.slice a n cap)) ∧ Below w.heap.size w x) := by rw [hg]; exact HC
  have HG := Lib.hid hg
  try simp only [hg]
  clear hg
  obtain ⟨⟨c0, c1, c2, c3, c4⟩, bW⟩ := HC.out _ (Below.refl _ _)
  go_wp2_with fail
  clear c0 c1 c2 c3 c4
  go_loopw [17] (fun iv wr => ∃ i : Nat, i ≤ 4 ∧ iv = .int .i64 (i : Int) ∧ Hid (∀ k, k < i → numIn (numAt st ng ns nv k)) ∧ Below W.heap.size W wr) (fun iv _ => 4 - (intOf iv).toNat)
  case atStart => exact ⟨0, by omega, rfl, fun k hk => by omega, Below.refl _ _⟩
  case round =>
    obtain ⟨i, hi, rfl, HOK, bq⟩ := hrel
    have bw := (HC.out _ bq).2
    by_cases hlt : i < 4
    · have hix := numAt_run st ng ns nv hlt
      have HBAD : Hid (¬ numIn (numAt st ng ns nv i) → A (.returned (.iface 90 (.agg #[.int .i64 1])))) := fun hb => HNO.out (fun c => hb (by
        have : i = 0 ∨ i = 1 ∨ i = 2 ∨ i = 3 := by omega
        rcases this with rfl | rfl | rfl | rfl
        · exact c.1.1
        · exact c.1.2.1
        · exact c.1.2.2.1
        · exact c.1.2.2.2)) 1 (.inl rfl)
      have HS : Hid (numIn (numAt st ng ns nv i) → ∀ k, k < i + 1 → numIn (numAt st ng ns nv k)) := fun hb k hk => by
        rcases Nat.lt_succ_iff_lt_or_eq.1 hk with h | rfl
        · exact HOK.out k h
        · exact hb
      generalize numAt st ng ns nv i = N at hix HBAD HS
      have hi4 : (i : Int) < 4 := by omega
      by_cases hn : numIn N
      · have HS' := Lib.hid (HS.out hn)
        have hd : decide (Fr.numOk N) = true := decide_eq_true hn
        clear HS HBAD
        go_wp2_with (go_at_call 107; refine (numberOk_any _ _).mono ?_; rintro e w1 ⟨rfl, rfl⟩; rw [hd])
        go_roundw
        case rel => exact ⟨i + 1, by omega, by go_num, HS', bq⟩
        case measure => simp [intOf]; omega
      · have HE := Lib.hid (HBAD.out hn)
        have hd : decide (Fr.numOk N) = false := decide_eq_false hn
        clear HS HBAD
        go_wp2_with (go_at_call 107; refine (numberOk_any _ _).mono ?_; rintro e w1 ⟨rfl, rfl⟩; rw [hd])
        go_ret
        exact ⟨HE.out, bw⟩
    · have hge : ¬ (i : Int) < 4 := by omega
      have h1 : 1 ≤ st ∧ st ≤ 1000000000 := HOK.out 0 (by omega)
      have h2 : 1 ≤ ng ∧ ng ≤ 1000000000 := HOK.out 1 (by omega)
      have h3 : 1 ≤ ns ∧ ns ≤ 1000000000 := HOK.out 2 (by omega)
      have h4 : 1 ≤ nv ∧ nv ≤ 1000000000 := HOK.out 3 (by omega)
      obtain ⟨⟨c0, c1, c2, c3, c4⟩, _⟩ := HC.out _ bq
      by_cases h5 : 1 ≤ n ∧ n ≤ 11
      rotate_left
      · have HE : Hid (A (.returned (.iface 90 (.agg #[.int .i64 2])))) := HNO.out (fun c => h5 c.2.1) 2 (.inr rfl)
        rcases (show n < 1 ∨ (¬ n < 1 ∧ 11 < n) by omega) with hz | ⟨hz, hy⟩
        · have hz' : (n : Int) < 1 := by omega
          go_wp2
          go_ret
          exact ⟨HE.out, bw⟩
        · have hz' : ¬ (n : Int) < 1 := by omega
          have hy' : (11 : Int) < (n : Int) := by omega
          go_wp2
          go_ret
          exact ⟨HE.out, bw⟩
      have HBAD : Hid (∀ (i : Nat) (r : Rf), rs[i]? = some r → ¬ rfAt ng rs i r → A (.returned (.iface 90 (.agg #[.int .i64 2])))) := fun i r hr hb => HNO.out (fun c => hb (c.2.2 i r hr)) 2 (.inr rfl)
      have HGOOD : Hid ((∀ (i : Nat) (r : Rf), rs[i]? = some r → rfAt ng rs i r) → A (.returned .nilIface)) := fun hb => HYES.out ⟨⟨h1, h2, h3, h4⟩, h5, hb⟩
      have hz' : ¬ (n : Int) < 1 := by omega
      have hy' : ¬ (11 : Int) < (n : Int) := by omega
      obtain ⟨wA, hwA⟩ : ∃ wA, wA = wr := ⟨_, rfl⟩
      subst hwA
      clear HYES HNO HOK bw
      go_wp2
      clear c0 c1 c2 c3 c4
      go_loopw [5, 41] (fun lv iv wr => ∃ (i : Nat) (last : Int), i ≤ n ∧ lv = .int .i64 last ∧ iv = .int .i64 (i : Int) ∧ Hid ((∀ (k : Nat) (r : Rf), k < i → rs[k]? = some r → rfAt ng rs k r) ∧ (i = 0 → last = 0) ∧ (∀ p : Rf, 0 < i → rs[i - 1]? = some p → last = p.2) ∧ 0 ≤ last) ∧ Below W.heap.size W wr) (fun _ iv _ => n - (intOf iv).toNat)
      case atStart => exact ⟨0, 0, by omega, rfl, rfl, ⟨fun k r hk => by omega, fun _ => rfl, fun p hp => by omega, by omega⟩, bq⟩
      case round =>
        clear bq
        obtain ⟨i, last, hi, rfl, rfl, HOK, bq⟩ := hrel
        obtain ⟨⟨c0, c1, c2, c3, c4⟩, bw⟩ := HC.out _ bq
        by_cases hlt : i < n
        · obtain ⟨r, hgr⟩ : ∃ r, rs[i]? = some r := ⟨_, List.getElem?_eq_getElem (by rw [HN.out]; exact hlt)⟩
          obtain ⟨gp, op, rfl, p0, p1⟩ := HR.out _ bw i _ hgr
          have HGR := Lib.hid hgr
          clear hgr
          have HCAP : Hid (n ≤ cap) := by
            rcases HRW.out with ⟨hz, _⟩ | ⟨_, _, _, e, hc, _⟩
            · have := HN.out; rw [hz] at this; simp at this; omega
            · cases e; rw [HN.out] at hc; exact hc
          have HIFF : Hid (rfAt ng rs i r ↔ ¬ r.2 ≤ last ∧ ¬ ng ≤ r.2 ∧ (0 ≤ r.1 ∧ r.1 ≤ 10) ∧ hasR (rs.take i) r.1 = false) :=
            ⟨fun h => rfAt_not (by rw [HN.out]; omega) HOK.out.2.1 HOK.out.2.2.1 h, fun h => rfAt_of HOK.out.2.2.1 HOK.out.2.2.2 h.1 h.2.1 h.2.2.1 h.2.2.2⟩
          obtain ⟨rN, rG⟩ := r
          simp only at p0 p1 HIFF
          have hi0 : (0 : Int) ≤ (i : Int) := by omega
          have hi1 : (i : Int) < (n : Int) := by omega
          have XB := Box.new wr #[.int .i64 rN, .int .i64 rG] 80
          have k9 := belNew wr (.cells #[.int .i64 rN, .int .i64 rG] 80)
          have b9 := bq.trans (k9.mono bq.size)
          clear bq bw
          go_upto_region 13 with fail
          clear p0 p1 c0 c1 c2 c3 c4
          generalize wr.alloc (.cells #[.int .i64 rN, .int .i64 rG] 80) = w9 at XB b9 ⊢
          obtain ⟨g9, hg9⟩ : ∃ g9, wr.heap.size = g9 := ⟨_, rfl⟩
          rw [hg9] at XB ⊢
          clear hg9 k9
          have H9 : Hid (∀ x, Below w9.heap.size w9 x → (x.cell? ⟨g9, 0, none⟩ = some (.int .i64 rN) ∧ x.cell? ⟨g9, 1, none⟩ = some (.int .i64 rG) ∧ x.cell? ⟨g, 1, none⟩ = some (.int .i64 ng) ∧ x.cell? ⟨g, 4, none⟩ = some (.slice (some ⟨gp, op, none⟩) n cap)) ∧ Below w.heap.size w x ∧ Below W.heap.size W x) := fun x hx =>
            have hb := b9.trans (hx.mono b9.size)
            ⟨⟨(XB.later hx).cell 0 _ rfl, (XB.later hx).cell 1 _ rfl, (HC.out _ hb).1.2.1, (HC.out _ hb).1.2.2.2.2⟩, (HC.out _ hb).2, hb⟩
          clear XB b9
          obtain ⟨F, hF0⟩ := someC (¬ rfAt ng rs i (rN, rG))
          have hF := Lib.hid hF0
          clear hF0
          go_cut [71] (fun c wx => c = .bool F ∧ Below w9.heap.size w9 wx)
          case first =>
            obtain ⟨⟨d0, d1, c1, c4⟩, bw, _⟩ := H9.out _ (Below.refl _ _)
            by_cases ha : rG ≤ last
            · have HE : Hid (F = true) := hF.out.2 (fun c => (HIFF.out.1 c).1 ha)
              clear hF HR HN HC HBAD HGOOD HOK HGR H9 bw HIFF HRW
              go_quiet (fail)
              go_wp2_with fail
              go_meet
              exact ⟨by rw [HE.out], below_drewN (Below.refl _ _) _⟩
            by_cases hb : ng ≤ rG
            · have HE : Hid (F = true) := hF.out.2 (fun c => (HIFF.out.1 c).2.1 hb)
              clear hF HR HN HC HBAD HGOOD HOK HGR H9 bw HIFF HRW
              go_quiet (fail)
              go_wp2_with fail
              go_meet
              exact ⟨by rw [HE.out], below_drewN (Below.refl _ _) _⟩
            by_cases hs : 0 ≤ rN ∧ rN ≤ 10
            rotate_left
            · have HE : Hid (F = true) := hF.out.2 (fun c => hs (HIFF.out.1 c).2.2.1)
              have HQ := Lib.hid (fun x => segNo_q (decide_eq_false hs) x)
              clear hF HR HN HC HBAD HGOOD HOK HGR H9 bw HIFF HRW
              go_quiet (first | (go_at_call 44; exact Calls.quiet_of_same (HQ.out _)))
              go_wp2_with fail
              go_meet
              exact ⟨by rw [HE.out], below_drewN (Below.refl _ _) _⟩
            have hd : decide (0 ≤ rN ∧ rN ≤ 10) = true := decide_eq_true hs
            have HFE : Hid (F = hasR (rs.take i) rN) := by
              show _ = _
              cases hq : hasR (rs.take i) rN with
              | true => exact hF.out.2 (fun c => by have := (HIFF.out.1 c).2.2.2; rw [hq] at this; cases this)
              | false => exact Bool.eq_false_iff.2 (fun h => hF.out.1 h (HIFF.out.2 ⟨ha, hb, hs, hq⟩))
            have HTK := Lib.hid (fun x (hx : Below w.heap.size w x) => refersTo_any (rs.take i) (.slice (some ⟨gp, op, none⟩) i cap) rN x ((HRW.out.later hx).takeR i (by omega)) (by rw [List.length_take]; omega))
            generalize hasR (rs.take i) rN = D at HFE HTK
            have hsl : ∀ wx, (Instr.slice 49 (.slice (some ⟨gp, op, none⟩) n cap) none (some (.int .i64 (i : Int))) none).run Tryz.prog wx = .ok (.slice (some ⟨gp, op, none⟩) i cap) wx := fun wx => sliceTo_run (by have := HCAP.out; omega) wx
            have kk : Below w9.heap.size w9 w9.drew := (Below.refl _ _).drew
            obtain ⟨⟨e0, e1, e2, e3⟩, _⟩ := H9.out _ kk
            clear hF HR HN HC HBAD HGOOD HOK HGR bw HIFF HRW d0 d1 c1 c4
            go_region_held3 (fun x => x.cell? ⟨g9, 0, none⟩ = some (.int .i64 rN) ∧ x.cell? ⟨g9, 1, none⟩ = some (.int .i64 rG) ∧ x.cell? ⟨g, 1, none⟩ = some (.int .i64 ng) ∧ x.cell? ⟨g, 4, none⟩ = some (.slice (some ⟨gp, op, none⟩) n cap))
              (first | exact (H9.out _ kk).1)
              (first
                | (go_at_call 44; refine (segNo_any _ _).mono ?_; rintro e wX ⟨rfl, rfl⟩; rw [hd])
                | (go_at_call 111; refine (HTK.out _ (H9.out _ kk).2.1).mono ?_; rintro e wX ⟨rfl, kX⟩; have kk := kk.trans (kX.mono kk.size); clear kX))
            all_goals
              go_wp2_with fail
              go_meet
              exact ⟨by rw [HFE.out], kk⟩
          case rest =>
            obtain ⟨rfl, k10⟩ := hcut
            cases F with
            | true =>
              have HE := Lib.hid (HBAD.out i _ HGR.out (hF.out.1 rfl))
              have bE := (H9.out _ k10).2.1
              go_wp2
              go_ret
              exact ⟨HE.out, bE⟩
            | false =>
              have HP : Hid (rfAt ng rs i (rN, rG)) := Classical.byContradiction (fun c => by have := hF.out.2 c; cases this)
              have HS : Hid ((∀ (k : Nat) (r : Rf), k < i + 1 → rs[k]? = some r → rfAt ng rs k r) ∧ (i + 1 = 0 → rG = 0) ∧ (∀ p : Rf, 0 < i + 1 → rs[i + 1 - 1]? = some p → rG = p.2) ∧ 0 ≤ rG) := by
                refine ⟨fun q y hq hy => ?_, fun h => by omega, fun p _ hp => ?_, by have := HP.out.2.1.1; simp only at this; omega⟩
                · rcases Nat.lt_succ_iff_lt_or_eq.1 hq with h | rfl
                  · exact HOK.out.1 q y h hy
                  · have e := Option.some.inj (hy.symm.trans HGR.out); rw [e]; exact HP.out
                · rw [Nat.add_sub_cancel] at hp
                  have e := Option.some.inj (hp.symm.trans HGR.out)
                  rw [e]
              obtain ⟨⟨d0, d1, c1, c4⟩, _, bX⟩ := H9.out _ k10
              clear hF k10 HIFF
              go_wp2
              go_roundw
              case rel => exact ⟨i + 1, rG, by omega, rfl, by go_num, HS, bX⟩
              case measure => simp [intOf]; omega
        · have hge : ¬ (i : Int) < (n : Int) := by omega
          have HE := Lib.hid (HGOOD.out (fun k r hr => HOK.out.1 k r (by have := (List.getElem?_eq_some_iff.1 hr).1; rw [HN.out] at this; omega) hr))
          clear c0 c1 c2 c3 c4
          go_wp2
          go_ret
          exact ⟨HE.out, bw⟩


end Go.Proofs.YtgcnebepklelpaaGreatDoor

/- strings.Builder beside other memory: WriteString writes into the builder and its own buffer alone. -/
namespace Go.Proofs.YtgcnebepklelpaaGreatDoor
open Go.RowKit Go.Shelf

structure BelBut (B b : Nat) (w w' : World) : Prop where
  os : w'.os = w.os
  tape : w'.tape = w.tape
  output : w'.output = w.output
  size : w.heap.size ≤ w'.heap.size
  block : ∀ k, k < B → k ≠ b → w'.heap[k]? = w.heap[k]?
theorem BelBut.refl (B b : Nat) (w : World) : BelBut B b w w := ⟨rfl, rfl, rfl, Nat.le_refl _, fun _ _ _ => rfl⟩
theorem BelBut.trans {B b : Nat} {u v w : World} (h : BelBut B b u v) (k : BelBut B b v w) : BelBut B b u w :=
  ⟨k.os.trans h.os, k.tape.trans h.tape, k.output.trans h.output, Nat.le_trans h.size k.size, fun q h1 h2 => (k.block q h1 h2).trans (h.block q h1 h2)⟩
theorem BelBut.of_below {B b : Nat} {u v : World} (h : Below u.heap.size u v) (hB : B ≤ u.heap.size) : BelBut B b u v :=
  ⟨h.os, h.tape, h.output, h.size, fun q h1 _ => h.block q (by omega)⟩
theorem BelBut.below {B b C : Nat} {u v : World} (h : BelBut B b u v) (h1 : C ≤ b) (h2 : C ≤ B) : Below C u v :=
  ⟨h.os, h.tape, h.output, h.size, fun q hq => h.block q (by omega) (by omega)⟩
theorem BelBut.grown {B b : Nat} {u v : World} {r : Option Nat} (h : u.grownBy v r) (hB : B ≤ u.heap.size) (hr : ∀ k, r = some k → B ≤ k ∨ k = b) : BelBut B b u v :=
  ⟨h.os, h.tape, h.output, h.size, fun q h1 h2 => h.block q (by omega) (fun e => by rcases hr q e.symm with e1 | e1 <;> omega)⟩

def Bld (B b : Nat) (bs : List Value) (w : World) : Prop := b < B ∧ ∃ p v, (p = .pointer none ∨ p = .pointer (some ⟨b, 0, none⟩)) ∧ Box w b #[p, v] 145 ∧ w.ownsRow B 5 1 v bs.length bs
theorem Bld.later {B b : Nat} {bs : List Value} {w w' : World} (h : Bld B b bs w) (hb : Below w.heap.size w w') : Bld B b bs w' := by
  obtain ⟨h1, p, v, h2, h3, h4⟩ := h
  have hg : w.grownBy w' none := ⟨hb.os, hb.tape, hb.output, hb.size, fun k hk _ => hb.block k hk⟩
  refine ⟨h1, p, v, h2, h3.later hb, h4.kept hg ?_⟩
  cases hv : v.ownBlock with
  | none => exact .inl rfl
  | some k => exact .inr (by simp)
theorem Bld.is {B b : Nat} {bs : List Value} {w : World} (h : Bld B b bs w) : Lib.IsBuilder 145 5 b b bs w := by
  obtain ⟨h1, p, v, h2, h3, h4⟩ := h
  have h5 : w.ownsRow b 5 1 v bs.length bs := by
    rcases h4 with ⟨e, h | ⟨g, cap, cur, a, c, d⟩⟩
    · exact ⟨e, .inl h⟩
    · exact ⟨e, .inr ⟨g, cap, cur, a, by omega, d⟩⟩
  have h6 : v.ownBlock ≠ some b := fun e => by have := (h4.lt b e).1; omega
  rcases h2 with rfl | rfl
  · exact .inl ⟨Nat.le_refl _, v, h3, h5, h6⟩
  · exact .inr ⟨Nat.le_refl _, v, h3, h5, h6⟩

set_option maxHeartbeats 2000000 in
set_option maxRecDepth 100000 in
theorem bldWrite2 (B b : Nat) (bs : List Value) (s : ByteArray) (w : World) (h : Bld B b bs w) (hlen : bs.length + s.size ≤ 140737488355328) (hBw : B ≤ w.heap.size) :
    Calls Tryz.prog 94 #[.pointer (some ⟨b, 0, none⟩), .string s] w fun e w' => e = .returned (.tuple #[.int .i64 s.size, .nilIface]) ∧ Bld B b (bs ++ Lib.strCells s) w' ∧ BelBut B b w w' := by
  obtain ⟨i0, hi, hz0, hz1, hz2⟩ := info_parts bldExtra.infoByte
  have HCC : Calls Tryz.prog 112 #[.pointer (some ⟨b, 0, none⟩)] w fun e w' => e = .returned (.tuple #[]) ∧ (∃ v, Box w' b #[.pointer (some ⟨b, 0, none⟩), v] 145 ∧ w'.ownsRow B 5 1 v bs.length bs) ∧ BelBut B b w w' := by
    obtain ⟨h1, p, v, h2, h3, h4⟩ := h
    rcases h2 with rfl | rfl
    · refine (copyCheck_fresh b w (h3.cell 0 _ rfl) (by have h3' : w.heap[b]? = some (.cells #[.pointer none, v] 145 (0, 0)) := h3; simp [World.shape?, h3']) (h3.loose 0)).mono ?_
      rintro e w' ⟨rfl, rfl⟩
      exact ⟨rfl, ⟨v, h3.set 0 _, h4.kept (stored_grown w b 0 _) (.inr (fun e => by have := (h4.lt b e).1; omega))⟩, BelBut.grown (stored_grown w b 0 _) hBw (fun k hk => .inr (Option.some.inj hk).symm)⟩
    · refine (copyCheck_used b w (h3.cell 0 _ rfl)).mono ?_
      rintro e w' ⟨rfl, rfl⟩
      exact ⟨rfl, ⟨v, h3, h4⟩, BelBut.refl B b _⟩
  have hbB := h.1
  clear h
  go_enter Tryz.func94, Tryz.ntmps94
  go_wp2_with (go_at_call 112; refine HCC.mono ?_)
  rintro e w1 ⟨rfl, ⟨v, hbk, hown⟩, hb1⟩
  have c0 := hbk.cell 0 _ rfl
  have c1 := hbk.cell 1 _ rfl
  have hs1 := hb1.size
  clear HCC
  go_wp2_with (at_builtin; refine Lib.wpList_append_own_string _ rfl _ _ 134 9 rfl B 5 i0 Tryz.underlying134 Tryz.underlying9 hi hz0 hz1 hz2 _ _ _ rfl hown s rfl ?c3 ?c4 ?c5 ?_)
  case c3 => unfold maxLen; omega
  case c4 => omega
  case c5 => omega
  intro v' w2 hown' hgrow _
  have hb2 : Box w2 b #[.pointer (some ⟨b, 0, none⟩), v] 145 := (hgrow.block b hbk.lt (fun e => by have := (hown.lt b e.symm).1; omega)).trans hbk
  have d0 := hb2.cell 0 _ rfl
  have d1 := hb2.cell 1 _ rfl
  have f1 := hb2.loose 1
  obtain ⟨ao, n', cap, rfl⟩ : ∃ ao n' cap, v' = .slice ao n' cap := by
    rcases hown'.2 with ⟨hv, _⟩ | ⟨g, cap, cur, hv, _⟩
    · exact ⟨_, _, _, hv⟩
    · exact ⟨_, _, _, hv⟩
  have own2 : w2.ownsRow B 5 1 (.slice ao n' cap) (bs ++ Lib.strCells s).length (bs ++ Lib.strCells s) := by simpa [Lib.strCells_length] using hown'
  have HF : Hid (Bld B b (bs ++ Lib.strCells s) (w2.setCell ⟨b, 1, none⟩ (.slice ao n' cap)) ∧ BelBut B b w (w2.setCell ⟨b, 1, none⟩ (.slice ao n' cap))) := by
    refine ⟨⟨hbB, _, _, .inr rfl, hb2.set 1 _, own2.kept (stored_grown w2 b 1 _) (.inr (fun e => by have := (own2.lt b e).1; omega))⟩, ?_⟩
    have k2 : BelBut B b w1 w2 := BelBut.grown hgrow (by omega) (fun k hk => .inl (hown.lt k hk).1)
    have k3 : BelBut B b w2 (w2.setCell ⟨b, 1, none⟩ (.slice ao n' cap)) := BelBut.grown (stored_grown w2 b 1 _) (by have := k2.size; omega) (fun k hk => .inr (Option.some.inj hk).symm)
    exact (hb1.trans k2).trans k3
  clear own2 hown' hgrow hown hbk hb2 hb1
  go_wp2
  go_ret2
  exact ⟨rfl, HF.out.1, HF.out.2⟩

end Go.Proofs.YtgcnebepklelpaaGreatDoor

/- CheckText of the program. -/
namespace Go.Proofs.YtgcnebepklelpaaGreatDoor
open Go.RowKit

theorem byteCells_len (l : List UInt8) : (Lib.byteCells l).length = l.length := by rw [show Lib.byteCells l = bytesV l from rfl, bytesV_length]
theorem cell_heap {X Y : World} {g k : Nat} (h : X.heap[g]? = Y.heap[g]?) : X.cell? ⟨g, k, none⟩ = Y.cell? ⟨g, k, none⟩ := by simp [World.cell?, h]

theorem intE_row (l : List Int) : intE.row l = l.map (Value.int .i64) := by
  induction l with
  | nil => rfl
  | cons x t ih => rw [show intE.row (x :: t) = intE.f x ++ intE.row t from rfl, ih]; rfl
theorem RBuf.litI (w : World) (l : List Int) (hl : l.length ≤ 1000) : RBuf intE w.heap.size (w.alloc (.cells (l.map (Value.int .i64)).toArray 3)) (w.alloc (.cells (l.map (Value.int .i64)).toArray 3)) (.slice (some ⟨w.heap.size, 0, none⟩) l.length l.length) l := by
  refine ⟨?_, Below.refl _ _, by simp⟩
  have := World.ownsRow_lit (base := w.heap.size) (e := intE.ty) (size := intE.sz) w (l.map (Value.int .i64)).toArray l.length (Nat.le_refl _) (by unfold maxLen; omega) (by simp [intE])
  rw [intE_row]
  simp only at this
  exact this
set_option maxRecDepth 100000 in
set_option maxHeartbeats 4000000 in
theorem numbersOf_any (c : Ck) (a : Option Addr) (cap : Nat) (w : World) (h : Rows' rfE w (.slice a c.refs.length cap) c.refs) (hl : c.refs.length ≤ 1048576) :
    Calls Tryz.prog 93 #[.agg #[.int .i64 c.st, .int .i64 c.ng, .int .i64 c.ns, .int .i64 c.nv, .slice a c.refs.length cap]] w fun e w' => ∃ v', e = .returned v' ∧ RBuf intE w.heap.size w w' v' (ckNs c c.refs.length) := by
  obtain ⟨_, _, hv, hrow⟩ := h.refs
  cases hv
  have HR := Lib.hid hrow
  clear h hrow
  have HST := Lib.hid (fun (i : Nat) (r : Rf) (hr : c.refs[i]? = some r) => ckNs_step hr)
  have HLN := Lib.hid (ckNs_len c)
  have HZ : Hid (ckNs c 0 = [c.st, c.ng, c.ns, c.nv, (c.refs.length : Int)]) := by show _ = _; simp [ckNs]
  obtain ⟨NS, hNS⟩ : ∃ NS, ckNs c = NS := ⟨_, rfl⟩
  rw [hNS] at HST HLN HZ ⊢
  clear hNS
  obtain ⟨st, ng, ns, nv, rs⟩ := c
  simp only at HR HST HLN HZ hl ⊢
  obtain ⟨n, hn⟩ : ∃ n, rs.length = n := ⟨_, rfl⟩
  rw [hn] at hl HLN HZ ⊢
  have HN := Lib.hid hn
  clear hn
  have X0 := Box.new w #[.int .i64 st, .int .i64 ng, .int .i64 ns, .int .i64 nv, .slice a n cap] 51
  have b0 := belNew w (.cells #[.int .i64 st, .int .i64 ng, .int .i64 ns, .int .i64 nv, .slice a n cap] 51)
  obtain ⟨x0, x1, x2, x3, x4, _⟩ := X0.fiveC
  go_enter Tryz.func93, Tryz.ntmps93
  go_upto_region 1 with fail
  generalize w.alloc (.cells #[.int .i64 st, .int .i64 ng, .int .i64 ns, .int .i64 nv, .slice a n cap] 51) = W at X0 b0 x0 x1 x2 x3 x4 ⊢
  have I0 := RBuf.litI W [st, ng, ns, nv, (n : Int)] (by simp)
  have kI := belNew W (.cells #[.int .i64 st, .int .i64 ng, .int .i64 ns, .int .i64 nv, .int .i64 (n : Int)] 3)
  have y4 := (X0.later kI).cell 4 _ rfl
  have HI : Hid (RBuf intE W.heap.size W (W.alloc (.cells #[.int .i64 st, .int .i64 ng, .int .i64 ns, .int .i64 nv, .int .i64 (n : Int)] 3)) (.slice (some ⟨W.heap.size, 0, none⟩) 5 5) (NS 0)) := by
    show RBuf _ _ _ _ _ _
    rw [HZ.out]
    exact I0.down kI (Nat.le_refl _)
  have HB0 := Lib.hid b0
  clear X0 b0 I0 kI
  go_wp2_with fail
  clear x0 x1 x2 x3 x4 y4
  generalize W.alloc (.cells #[.int .i64 st, .int .i64 ng, .int .i64 ns, .int .i64 nv, .int .i64 (n : Int)] 3) = W1 at HI ⊢
  go_loopw [3, 21] (fun v iv wr => ∃ i : Nat, i ≤ n ∧ iv = .int .i64 (i : Int) ∧ RBuf intE W.heap.size W wr v (NS i)) (fun _ iv _ => n - (intOf iv).toNat)
  case atStart => exact ⟨0, by omega, rfl, HI.out⟩
  case round =>
    clear HI
    obtain ⟨i, hi, rfl, I⟩ := hrel
    by_cases hlt : i < n
    · obtain ⟨r, hgr⟩ : ∃ r, rs[i]? = some r := ⟨_, List.getElem?_eq_getElem (by rw [HN.out]; exact hlt)⟩
      have bw := HB0.out.trans (I.bel.mono HB0.out.size)
      obtain ⟨gp, op, rfl, p0, p1⟩ := HR.out _ bw i _ hgr
      have HS := Lib.hid (HST.out i r hgr)
      have hln := HLN.out i hi
      clear hgr bw
      obtain ⟨rN, rG⟩ := r
      simp only at p0 p1 HS
      obtain ⟨L0, hL0⟩ : ∃ L, NS i = L := ⟨_, rfl⟩
      rw [hL0] at I HS hln
      have HLL := Lib.hid hln
      clear hL0 hln
      have hi0 : (0 : Int) ≤ (i : Int) := by omega
      have hi1 : (i : Int) < (n : Int) := by omega
      have XS := Box.new wr #[.int .i64 rN, .int .i64 rG] 80
      have kS := belNew wr (.cells #[.int .i64 rN, .int .i64 rG] 80)
      have I1 := I.later kS
      clear I kS
      go_upto_region 5 with fail
      clear p0 p1
      generalize wr.alloc (.cells #[.int .i64 rN, .int .i64 rG] 80) = wS at XS I1 ⊢
      obtain ⟨gS, hgS⟩ : ∃ gS, wr.heap.size = gS := ⟨_, rfl⟩
      rw [hgS] at XS ⊢
      clear hgS
      have s0 := XS.cell 0 _ rfl
      have s1 := XS.cell 1 _ rfl
      have hb5 := Lib.hid (I1.alloc (.cells #[.int .i64 rN, .int .i64 rG] 3))
      have hL5 := Lib.hid (RBuf.litI wS [rN, rG] (by simp))
      obtain ⟨a5, c5, rfl⟩ := I1.form
      clear XS I1
      go_wp2_with (at_builtin; refine wpList_append_rows rfl _ _ intE rfl W.heap.size _ L0 rfl hb5.out.here wS.heap.size _ [rN, rG] rfl hL5.out (by show _ * 9 ≤ _; simp only [List.length_cons, List.length_nil]; have := HLL.out; omega) ?_; intro v8 w8 r8 g8 at8)
      exact ⟨⟨i + 1, by omega, by simp, by rw [HS.out]; exact ⟨r8.own, hb5.out.bel.grown g8 hb5.out.le (fun q hq => (hb5.out.own.lt q hq).1), r8.le⟩⟩, by first | omega | (simp [intOf]; omega)⟩
    · have hin : i = n := by omega
      subst hin
      have hge : ¬ (i : Int) < (i : Int) := by omega
      have HD := Lib.hid (I.down (HB0.out.trans (I.bel.mono HB0.out.size)) HB0.out.size)
      clear I
      go_wp2
      go_ret
      exact ⟨_, rfl, HD.out⟩

def TextC (c : Ck) (e : Ending) : Prop := (c.ok ∧ e = .returned (.tuple #[.string (ckTx c), .nilIface])) ∨ (¬ c.ok ∧ ∃ k : Int, (k = 1 ∨ k = 2) ∧ e = .returned (.tuple #[.string ⟨#[]⟩, .iface 90 (.agg #[.int .i64 k])]))
set_option maxRecDepth 100000 in
set_option maxHeartbeats 8000000 in
theorem textOfCheck_any (c : Ck) (a : Option Addr) (cap : Nat) (w : World) (ht : SumTab w) (h : Rows' rfE w (.slice a c.refs.length cap) c.refs) (hl : c.refs.length ≤ 1048576) :
    Calls Tryz.prog 72 #[.agg #[.int .i64 c.st, .int .i64 c.ng, .int .i64 c.ns, .int .i64 c.nv, .slice a c.refs.length cap]] w fun e w' => TextC c e ∧ Below w.heap.size w w' := by
  have HT : Hid (∀ x, Below w.heap.size w x → SumTab x) := fun x hx => ht.later hx
  have X0 := Box.new w #[.int .i64 c.st, .int .i64 c.ng, .int .i64 c.ns, .int .i64 c.nv, .slice a c.refs.length cap] 51
  have b0 := belNew w (.cells #[.int .i64 c.st, .int .i64 c.ng, .int .i64 c.ns, .int .i64 c.nv, .slice a c.refs.length cap] 51)
  have HW := Lib.hid (wrongWith_any c a cap _ (h.later b0) hl)
  obtain ⟨x0, x1, x2, x3, x4, _⟩ := X0.fiveC
  clear ht
  go_enter Tryz.func72, Tryz.ntmps72
  go_wp2_with fail
  clear x0 x1 x2 x3 x4
  refine HW.out.mono ?_
  rintro e w1 ⟨hw, k1⟩
  have b1 := b0.trans (k1.mono b0.size)
  have X1 := X0.later k1
  clear HW X0 b0 k1
  rcases hw with ⟨hok, rfl⟩ | ⟨hno, k, hk, rfl⟩
  rotate_left
  · have HE := Lib.hid (And.intro hno hk)
    clear hno hk h
    go_wp2
    go_ret2
    exact ⟨.inr ⟨HE.out.1, k, HE.out.2, rfl⟩, b1⟩
  have HZ1 : Hid (w.heap.size ≤ w1.heap.size) := b1.size
  have XB := Box.new w1 #[.pointer none, .slice none 0 0] 145
  have kB := belNew w1 (.cells #[.pointer none, .slice none 0 0] 145)
  have b2 := b1.trans (kB.mono b1.size)
  have X2 := X1.later kB
  have HNB := Lib.hid (numbersOf_any c a cap _ (h.later b2) hl)
  have HIN := Lib.hid (ckNs_in hok)
  have HNL := Lib.hid (ckNs_len c c.refs.length (Nat.le_refl _))
  have HL11 := Lib.hid hok.2.1.2
  obtain ⟨s1, s2, s3⟩ := ckSe_len hok
  have HOK := Lib.hid hok
  have HDE : Hid (ckSe c = ckBd c c.refs.length ++ fourOf (ckBd c c.refs.length) ∧ ckTx c = ⟨(vt (ckSe c).size).toArray⟩ ++ ckSe c ∧ ckBd c c.refs.length = ⟨(numsT (ckNs c c.refs.length)).toArray⟩) := ⟨rfl, rfl, rfl⟩
  obtain ⟨x0, x1, x2, x3, x4, _⟩ := X2.fiveC
  clear X1 hok h b1
  go_wp2_with fail
  clear x0 x1 x2 x3 x4
  generalize w1.alloc (.cells #[.pointer none, .slice none 0 0] 145) = w2 at XB kB b2 X2 HNB ⊢
  obtain ⟨gB, hgB⟩ : ∃ gB, w1.heap.size = gB := ⟨_, rfl⟩
  rw [hgB] at XB ⊢
  have hwB : w.heap.size ≤ gB ∧ gB < w2.heap.size := ⟨by rw [← hgB]; exact HZ1.out, XB.lt⟩
  clear hgB
  refine HNB.out.mono ?_
  rintro e w3 ⟨v3, rfl, R3⟩
  clear HNB kB
  obtain ⟨NS, hNS⟩ : ∃ NS, ckNs c c.refs.length = NS := ⟨_, rfl⟩
  rw [hNS] at R3 HIN HNL HDE
  obtain ⟨BD, hBD⟩ : ∃ BD, ckBd c c.refs.length = BD := ⟨_, rfl⟩
  rw [hBD] at HDE s1
  obtain ⟨SE, hSE⟩ : ∃ SE, ckSe c = SE := ⟨_, rfl⟩
  rw [hSE] at HDE s2
  have HFIN : Hid (∀ TX, ckTx c = TX → TextC c (.returned (.tuple #[.string TX, .nilIface]))) := fun TX e => .inl ⟨HOK.out, by rw [e]⟩
  obtain ⟨TX, hTX⟩ : ∃ TX, ckTx c = TX := ⟨_, rfl⟩
  rw [hTX] at HDE s3
  have HF := Lib.hid (HFIN.out TX hTX)
  clear hNS hBD hSE hTX HFIN HOK
  have bw3 := b2.trans (R3.bel.mono b2.size)
  have B3 : Bld w3.heap.size gB (Lib.byteCells (numsT (NS.take 0))) w3 := by
    refine ⟨by have := R3.bel.size; omega, _, _, .inl rfl, XB.later R3.bel, ?_⟩
    exact World.ownsRow_nil _ _ _ _
  obtain ⟨a3, c3, rfl, g3, o3, ha3, hN3⟩ : ∃ (a3 : Option Addr) (c3 : Nat), v3 = .slice a3 NS.length c3 ∧ ∃ g3 o3, a3 = some ⟨g3, o3, none⟩ ∧ ∀ X, BelBut w3.heap.size gB w3 X → ∀ (i : Nat) (x : Int), NS[i]? = some x → X.cell? ⟨g3, o3 + i, none⟩ = some (.int .i64 x) := by
    rcases R3.rows.ways with ⟨hz, _⟩ | ⟨_, g, off, c', rfl, _, hg, hcl⟩
    · have := HNL.out; rw [hz] at this; simp at this; omega
    · refine ⟨_, _, rfl, g, off, rfl, fun X hX i x hi => ?_⟩
      have hlt := R3.own.lt g rfl
      have h1 := hcl i x hi 0 _ rfl
      rw [show intE.sz = 1 from rfl, Nat.mul_one, Nat.add_zero] at h1
      rw [cell_heap (hX.block g hlt.2 (by have := hlt.1; omega))]
      exact h1
  subst ha3
  have HN3 := Lib.hid hN3
  have HTB : Hid (∀ i, (numsT (NS.take i)).length ≤ 5 * NS.length) := fun i => by
    have h1 := numsT_bound (l := NS.take i) (fun n hn => HIN.out n (List.mem_of_mem_take hn))
    rw [List.length_take] at h1
    omega
  have hm27 : NS.length ≤ 27 := by have := HNL.out; have := HL11.out; omega
  obtain ⟨m, hm⟩ : ∃ m, NS.length = m := ⟨_, rfl⟩
  rw [hm] at hm27 HTB ⊢
  have HM := Lib.hid hm
  clear hm hN3 R3 XB X2 HNL HL11
  have HBW := Lib.hid bw3
  have HB3 := Lib.hid B3
  obtain ⟨BB, hBB⟩ : ∃ BB, w3.heap.size = BB := ⟨_, rfl⟩
  rw [hBB] at HB3 HN3
  have HSZ : Hid (BB ≤ w3.heap.size ∧ gB < BB) := ⟨by omega, by rw [← hBB]; exact B3.1⟩
  clear hBB B3 bw3 b2
  go_wp2_with fail
  go_loopw [22] (fun iv wr => ∃ i : Nat, i ≤ m ∧ iv = .int .i64 (i : Int) ∧ Bld BB gB (Lib.byteCells (numsT (NS.take i))) wr ∧ BelBut BB gB w3 wr) (fun iv _ => m - (intOf iv).toNat)
  case atStart => exact ⟨0, by omega, rfl, HB3.out, BelBut.refl _ _ _⟩
  case round =>
    clear HB3
    obtain ⟨i, hi, rfl, hbd, hbb⟩ := hrel
    by_cases hlt : i < m
    · obtain ⟨N, hgN⟩ : ∃ N, NS[i]? = some N := ⟨_, List.getElem?_eq_getElem (by rw [HM.out]; exact hlt)⟩
      have p0 := HN3.out _ hbb i _ hgN
      have hin := HIN.out N (List.mem_of_getElem? hgN)
      have HS := Lib.hid (numsT_take hgN)
      have hlb := HTB.out i
      clear hgN
      have hv := vt_five (n := N.toNat) (by omega)
      have HV := Lib.hid (varT_yes (n := N) hin)
      obtain ⟨L0, hL0⟩ : ∃ L, numsT (NS.take i) = L := ⟨_, rfl⟩
      rw [hL0] at hbd HS hlb
      obtain ⟨T, hT⟩ : ∃ T, (⟨(vt N.toNat).toArray⟩ : ByteArray) = T := ⟨_, rfl⟩
      rw [hT] at HV
      have HTL : Hid (T.data.toList = vt N.toNat ∧ T.size ≤ 5) := by rw [← hT]; exact ⟨by simp, by show (vt N.toNat).toArray.size ≤ 5; simpa using hv⟩
      have hbl : (Lib.byteCells L0).length + T.size ≤ 140737488355328 := by rw [byteCells_len]; have := HTL.out.2; omega
      have HBL := Lib.hid hbl
      have HBD := Lib.hid hbd
      have HBB := Lib.hid hbb
      clear hL0 hT hbl hbd hbb hv
      have hi0 : (0 : Int) ≤ (i : Int) := by omega
      have hi1 : (i : Int) < (m : Int) := by omega
      go_wp2_with fail
      refine (implVarText_any N _).mono ?_
      rintro e w5 ⟨rfl, k5⟩
      rw [HV.out]
      clear p0
      go_wp2_with fail
      refine (bldWrite2 BB gB (Lib.byteCells L0) T _ (HBD.out.later k5) HBL.out (by have := HSZ.out.1; have := HBB.out.size; have := k5.size; omega)).mono ?_
      rintro e w6 ⟨rfl, bd6, k6⟩
      have es : Lib.byteCells L0 ++ Lib.strCells T = Lib.byteCells (numsT (NS.take (i + 1))) := by rw [HS.out, ← HTL.out.1]; simp [Lib.byteCells, Lib.strCells]
      rw [es] at bd6
      have HF6 := Lib.hid (And.intro bd6 ((HBB.out.trans (BelBut.of_below k5 (by have := HSZ.out.1; have := HBB.out.size; omega))).trans k6))
      clear bd6 k6 k5 es
      go_wp2_with fail
      go_roundw
      case rel => exact ⟨i + 1, by omega, by go_num, HF6.out.1, HF6.out.2⟩
      case measure => simp [intOf]; omega
    · have hge : ¬ (i : Int) < (m : Int) := by omega
      have him : i = NS.length := by rw [HM.out]; omega
      rw [him, List.take_length] at hbd
      have hgs : gB ≤ wr.heap.size := by have := HSZ.out; have := hbb.size; omega
      have HST := Lib.hid (bldString gB gB (numsT NS) _ hbd.is hgs)
      obtain ⟨hd1, hd2, hd3⟩ := HDE.out
      rw [← hd3] at HST
      have bwr := HBW.out.trans (hbb.below (C := w.heap.size) hwB.1 (by have := HSZ.out.2; omega))
      have HBR := Lib.hid bwr
      have HSEL := Lib.hid (seT_yes (s := BD) (by omega))
      rw [← hd1] at HSEL
      have HSS := Lib.hid (fun x hx => implSealed_any BD x (by omega) (HT.out x hx))
      have HSH := Lib.hid (fun x => implShortText_any SE x (by omega))
      have HSHT := Lib.hid (shT_yes (s := SE) (by omega))
      rw [← hd2] at HSHT
      have h128 : ¬ (128 : Int) < (TX.size : Int) := by omega
      have hwg := hwB.1
      clear him hbd hd1 hd2 hd3 bwr hbb HDE HTB HIN HN3 s1 s2 s3
      go_wp2_with (first
        | (go_at_call 95; refine HST.out.mono ?_; rintro e w7 ⟨rfl, k7⟩; have b7 := HBR.out.trans (k7.mono hwg))
        | (go_at_call 90; refine (HSS.out _ b7).mono ?_; rintro e w8 ⟨rfl, k8⟩; rw [HSEL.out])
        | (go_at_call 89; refine (HSH.out _).mono ?_; rintro e w9 ⟨rfl, k9⟩; rw [HSHT.out]))
      go_ret2
      have b8 := b7.trans (k8.mono b7.size)
      exact ⟨HF.out, b8.trans (k9.mono b8.size)⟩


end Go.Proofs.YtgcnebepklelpaaGreatDoor
