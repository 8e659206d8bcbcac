/- Texts of our own, joined. -/
import Derived.Test.YtlnpegknjhbdnaaDoorJf
import Derived.Test.YtlnpegknjhbdnaaDoorJb
import Derived.Lib.Hide
import Derived.WalkSmall
import Derived.Shelf.Abstract
import Derived.Shelf.RegionOpen
import Derived.WalkKit
import Derived.OwnWalkIn
import Derived.TacticsInMore
import Derived.LoopNIn
import Derived.LoopIn
import Derived.Deep.RegionHeld
import Derived.OrdersIn
import Derived.Test.YtlnpegknjhbdnaaDoorJc
/- slices.Chunk of a list of numbers, by twos: how it hands on its parts. -/
namespace Go.Proofs.YtlnpegknjhbdnaaDoor
open Go.RowKit Go.Shelf

attribute [local go_sem] Oper.semAt_some

/-- The part at a place. -/
def chE (g off : Nat) (j : Nat) : Array Value := #[.slice (some ⟨g, off + 2 * j, none⟩) 2 2]

set_option maxHeartbeats 1000000 in
theorem chunk_in (n : Nat) (a : Option Addr) (len cap : Nat) (w : World) :
    CallsIn Fence.wide n Tryd.prog 33 #[.slice a len cap, .int .i64 2] w fun e w' => e = .returned (.func (.func 47) #[] #[.pointer (some ⟨w.heap.size, 0, none⟩), .pointer (some ⟨w.heap.size + 1, 0, none⟩)]) ∧ w' = (w.alloc (.cells #[.slice a len cap] 68)).alloc (.cells #[.int .i64 2] 3) := by
  refine callsIn_of_wp Tryd.func33 rfl trivial ?_ rfl
  simp only [Tryd.ntmps33, List.size_toArray, List.length_cons, List.length_nil, Nat.reduceAdd, Nat.reduceSub, Array.replicate_succ, Array.replicate_zero, List.push_toArray, List.append_toArray, List.nil_append, List.cons_append]
  gi_wp2
  go_ret
  exact ⟨rfl, rfl⟩

theorem chunk_slice {g o n cap i : Nat} (h1 : i ≤ n) (wx : World) : (Instr.slice 68 (.slice (some ⟨g, o, none⟩) n cap) (some (.int .i64 (i : Int))) none none).run Tryd.prog wx = .ok (.slice (some (if cap = i then ⟨g, o, none⟩ else ⟨g, o + i, none⟩)) (n - i) (cap - i)) wx := by
  rw [run_slice_l (P := Tryd.prog) wx 68 _ n cap (by kernel_rfl) .i64 (i : Int) (by omega) (by omega)]
  rw [show Tryd.prog.elem 68 = 3 by kernel_rfl, Tryd.sizeOf3]
  simp only [Result.andThen, sliced, Int.toNat_natCast, Nat.mul_one]
  by_cases e : cap = i
  · simp [e]
  · simp [e, Addr.add]
theorem chunk_two {g o n cap i : Nat} (h1 : i + 2 ≤ n) (h2 : n ≤ cap) (wx : World) : (Instr.slice 68 (.slice (some ⟨g, o, none⟩) n cap) (some (.int .i64 (i : Int))) (some (.int .i64 ((i : Int) + 2))) (some (.int .i64 ((i : Int) + 2)))).run Tryd.prog wx = .ok (.slice (some ⟨g, o + i, none⟩) 2 2) wx := by
  rw [run_slice_lhm (P := Tryd.prog) wx 68 _ n cap (by kernel_rfl) .i64 .i64 .i64 (i : Int) ((i : Int) + 2) ((i : Int) + 2) (by omega) (by omega) (by omega) (by omega)]
  rw [show Tryd.prog.elem 68 = 3 by kernel_rfl, Tryd.sizeOf3]
  have e : ((i : Int) + 2).toNat = i + 2 := by omega
  simp only [Result.andThen, sliced, Int.toNat_natCast, Nat.mul_one, e]
  rw [if_neg (by omega)]
  simp [Addr.add]

set_option maxRecDepth 100000 in
set_option maxHeartbeats 2000000 in
theorem chunk1_in (n : Nat) (hn : 1 ≤ n) (Bs Bn g off cap m k : Nat) (ad : Option Addr) (ha : 0 < k → ad = some ⟨g, off, none⟩) (hk : m = 2 * k) (hc : m ≤ cap) (hm : m ≤ 1000000) (q : Nat) :
    SeqPl n Tryd.prog 47 #[.pointer (some ⟨Bs, 0, none⟩), .pointer (some ⟨Bn, 0, none⟩)] (chE g off) (fun X => X.cell? ⟨Bs, 0, none⟩ = some (.slice ad m cap) ∧ X.cell? ⟨Bn, 0, none⟩ = some (.int .i64 2)) (fun pre x => pre = List.range x ∧ x < k) (fun xs => xs = List.range k) q := by
  intro l J W hW hKn hD hY h0
  have HKm : Hid (m = 2 * k) := hk
  clear hk
  refine callsIn_of_wp Tryd.func47 rfl trivial ?_ rfl
  simp only [Tryd.ntmps47, List.size_toArray, List.length_cons, List.length_nil, Nat.reduceAdd, Nat.reduceSub, Array.replicate_succ, Array.replicate_zero, List.push_toArray, List.append_toArray, List.nil_append, List.cons_append]
  gi_wp2
  gi_loopw [4] (fun i wr => ∃ j : Nat, j ≤ k ∧ i = .int .i64 ((2 * j : Nat) : Int) ∧ J (List.range j) wr) (fun i _ => m - (intOf i).toNat)
  case atStart => exact ⟨0, Nat.zero_le _, rfl, by simpa using h0⟩
  case round =>
    obtain ⟨j, hj, rfl, hJ⟩ := hrel
    obtain ⟨⟨d0, d1⟩, _⟩ := hKn _ _ hJ
    by_cases hlt : j < k
    · obtain rfl := ha (by omega)
      have hl1 : ((2 * j : Nat) : Int) < (m : Int) := by have := HKm.out; omega
      have hl0 : (0 : Int) ≤ ((2 * j : Nat) : Int) := by omega
      obtain ⟨i, hi⟩ : ∃ i, 2 * j = i := ⟨_, rfl⟩
      have HLM : Hid (i + 2 ≤ m) := by show _ ≤ _; have := HKm.out; omega
      have HY : Hid (∀ X, wr.grownBy X none → YieldAt Fence.wide (n - 1) Tryd.prog l #[.slice (some ⟨g, off + i, none⟩) 2 2] X fun e X' => e = .returned (.bool true) ∧ J (List.range j ++ [j]) X') := fun X hX => by
        rw [← hi]
        exact hY _ j X (hD _ _ _ hJ hX) ⟨rfl, hlt⟩
      rw [hi] at hl1 hl0 ⊢
      have s1 := fun wx => chunk_slice (g := g) (o := off) (n := m) (cap := cap) (i := i) (by have := HLM.out; omega) wx
      have s2 := fun wx => chunk_two (g := g) (o := off) (n := m) (cap := cap) (i := i) HLM.out hc wx
      have hmin : min (2 : Int) ((m - i : Nat) : Int) = 2 := by have := HLM.out; omega
      have hmin2 : (if (2 : Int) ≤ ((m - i : Nat) : Int) then (2 : Int) else ((m - i : Nat) : Int)) = 2 := if_pos (by have := HLM.out; omega)
      have hw2 : IntKind.i64.wrap ((i : Int) + 2) = (i : Int) + 2 := IntWalk.i64_in _ ⟨by omega, by have := HLM.out; omega⟩
      have HI := Lib.hid hi
      clear hi
      gi_wp2
      gi_quiet (fail)
      have bD := below_drewN (Below.refl wr.heap.size wr) nq
      obtain ⟨fn, tmps, assign, body, hy, hR⟩ := HY.out (wr.drewN nq) ⟨bD.os, bD.tape, bD.output, bD.size, fun k hk _ => bD.block k hk⟩
      have d0' := (bD.cell (p := ⟨Bs, 0, none⟩) (World.block_lt_of_cell? _ _ d0)).trans d0
      have d1' := (bD.cell (p := ⟨Bn, 0, none⟩) (World.block_lt_of_cell? _ _ d1)).trans d1
      gi_wp2
      refine hR.mono ?_
      rintro e W3 ⟨rfl, hJ3⟩
      obtain ⟨⟨e0, e1⟩, _⟩ := hKn _ _ hJ3
      gi_wp2
      go_roundw
      case rel => exact ⟨j + 1, by omega, by have := HI.out; simp; omega, by rw [List.range_succ]; exact hJ3⟩
      case measure => have := HI.out; have := HLM.out; simp [intOf]; omega
    · obtain rfl : j = k := by omega
      have hge : ¬ ((2 * j : Nat) : Int) < (m : Int) := by have := HKm.out; omega
      gi_wp2
      go_end0
      first | exact ⟨⟨_, rfl⟩, _, rfl, hJ⟩ | exact ⟨⟨_, rfl⟩, hJ⟩

end Go.Proofs.YtlnpegknjhbdnaaDoor

/- A region that draws its order, within a round of a range over a function: as outside of it. -/
namespace Go.Proofs.YtlnpegknjhbdnaaDoor
open Go.RowKit

theorem rowsIn_of {l n : Nat} {P : Program} {row : String} {args : Array Value} {w : World} {R : Value → World → Prop} (h : Rows P row args w R) : RowsIn (Fence.wide.inRound l) n P row args w R :=
  fun c cs _ => let ⟨v, w', r, s⟩ := h c cs; ⟨v, w', r, stepsIn_wide.2 s⟩

def noDefer (ops : Array Oper) : Bool := ops.toList.all (fun o => match o.op with | .defer _ => false | _ => true)
theorem noDefer_at {ops : Array Oper} (h : noDefer ops = true) {i : Nat} {o : Oper} (hi : ops[i]? = some o) : ∀ c, o.op ≠ .defer c := fun c hc => by
  have := (List.all_eq_true.1 h) o (Array.mem_toList_iff.2 (Array.mem_of_getElem? hi))
  rw [hc] at this
  cases this

theorem oper_round {l n : Nat} {P : Program} {o : Oper} {a : Act} {w : World} {K : Act → World → Prop} {Q : Exit → Act → World → Prop} (hd : ∀ c, o.op ≠ .defer c) (h : o.wp P a w K Q) : o.wpIn (Fence.wide.inRound l) n P a w K Q := by
  refine ⟨fun _ _ => trivial, ?_⟩
  rw [show (Fence.wide.inRound l).round = some l from rfl, Oper.semAt_some l _ _ hd]
  unfold Oper.wp at h
  generalize (execOp a.eval o).run P w = r at *
  cases r with
  | ok x w' =>
    cases x <;> simp only [Oper.upon, Oper.uponIn] at h ⊢
    case value v => exact h
    case skip => exact h
    case defer d => exact h
    case enter f args => exact ⟨fun e => (by cases e), CallsIn.inRound l (callsIn_wide.2 h)⟩
    case row row args => exact ⟨fun e => (by cases e), rowsIn_of h⟩
  | halt x w' => cases x <;> simp only [Oper.upon, Oper.uponIn] at h ⊢ <;> exact h

theorem any_round {l n : Nat} {P : Program} {md : Region.Mode} {ops : Array Oper} {Q : Exit → Act → World → Prop} (hd : noDefer ops = true) (hQ : ∀ a w, ¬ Q .outgrown a w) :
    ∀ (fuel : Nat) (listed : Array Bool) (a : Act) (w : World), wpAny P md ops Q fuel listed a w → wpAnyIn (Fence.wide.inRound l) n P md ops Q fuel listed a w
  | 0, _, _, _, h => h
  | fuel + 1, listed, a, w, h => by
    refine ⟨h.1, fun i hi => ?_⟩
    have hh := wpOp_mono (fun a' w' h' => any_round hd hQ (l := l) (n := n) fuel _ a' w' h') (h.2 i hi)
    unfold wpOp at hh
    unfold wpOpIn
    cases ho : ops[i]? with
    | none => simpa [ho] using hh
    | some o =>
      simp only [ho] at hh ⊢
      split
      · rename_i hw
        simp only [hw, if_true] at hh
        rcases hh with hh | ⟨_, a1, w1, hx⟩
        · exact oper_round (noDefer_at hd ho) hh
        · exact absurd hx (hQ a1 w1)
      · rename_i hw
        simp only [hw] at hh
        exact ⟨fun _ _ => trivial, hh⟩

theorem wpIn_round_held {l n : Nat} {P : Program} {ops : Array Oper} {Q : Exit → Act → World → Prop} {S : World → Prop} {id : Nat} {a : Act} {w : World} (hm : P.follows .mixedOrders = true) (hd : noDefer ops = true) (hQ : ∀ a w, ¬ Q .outgrown a w) (hS : S w.drew)
    (h : S w.drew → wpAnyH P .any ops Q S ops.size (Array.replicate ops.size false) a w.drew) : (Code.region id ops true).wpIn (Fence.wide.inRound l) n P Q a w :=
  wpIn_region_any hm (any_round hd hQ _ _ _ _ (wpAny_of_held _ _ _ _ (h hS)))

end Go.Proofs.YtlnpegknjhbdnaaDoor

/- readUnsealedCheck of the program: what lies ahead of a check's sum. -/
namespace Go.Proofs.YtlnpegknjhbdnaaDoor
open Go.RowKit Go.Shelf

theorem rn_none {t : ByteArray} {k n : Nat} (w : World) (hs : t.size ≤ 1099511627776) (hk : k ≤ t.size) (hn : n ≤ 1000) (h : rdNs t.data.toList k n = none) :
    Calls Tryd.prog 32 #[.string t, .int .i64 (k : Int), .int .i64 (n : Int)] w fun e w' =>
      e = .returned (.tuple #[.slice none 0 0, .int .i64 0, .iface 60 (.agg #[.int .i64 5])]) ∧ Below w.heap.size w w' :=
  (readNumbers_any t k n w hs hk hn).mono fun e w' ⟨h1, h2⟩ => by
    rcases h1 with ⟨_, h1⟩ | ⟨ns, p, v, h1, _⟩
    · exact ⟨h1, h2⟩
    · rw [h] at h1; cases h1
theorem rn_some {t : ByteArray} {k n p : Nat} {ns : List Nat} (w : World) (hs : t.size ≤ 1099511627776) (hk : k ≤ t.size) (hn : n ≤ 1000) (h : rdNs t.data.toList k n = some (ns, p)) :
    Calls Tryd.prog 32 #[.string t, .int .i64 (k : Int), .int .i64 (n : Int)] w fun e w' =>
      ∃ v, e = .returned (.tuple #[v, .int .i64 (p : Int), .nilIface]) ∧ RBuf intE w.heap.size w w' v (intsN ns) :=
  (readNumbers_any t k n w hs hk hn).mono fun e w' ⟨h1, h2⟩ => by
    rcases h1 with ⟨h1, _⟩ | ⟨ns', p', v, h1, h3, h4⟩
    · rw [h] at h1; cases h1
    · rw [h] at h1; cases h1; exact ⟨v, h3, h4⟩

/-- What is told of a text that holds no check's numbers. -/
def UnMiss (e : Ending) : Prop := ∃ k : Int, k ≠ 0 ∧ e = .returned (.tuple #[.agg #[.int .i64 0, .int .i64 0, .int .i64 0, .int .i64 0, .slice none 0 0], .iface 60 (.agg #[.int .i64 k])])

set_option maxRecDepth 100000 in
set_option maxHeartbeats 2000000 in
theorem readUn6 (t : ByteArray) (w : World) (hs : t.size ≤ 1099511627776) (h : rdNs t.data.toList 0 6 = none) :
    Calls Tryd.prog 25 #[.string t] w fun e w' => UnMiss e ∧ Below w.heap.size w w' := by
  have X0 := Box.new w #[.int .i64 0, .int .i64 0, .int .i64 0, .int .i64 0, .slice none 0 0] 24
  have b0 := belNew w (.cells #[.int .i64 0, .int .i64 0, .int .i64 0, .int .i64 0, .slice none 0 0] 24)
  have H6 : Hid (∀ w, Calls Tryd.prog 32 #[.string t, .int .i64 0, .int .i64 6] w fun e w' => e = .returned (.tuple #[.slice none 0 0, .int .i64 0, .iface 60 (.agg #[.int .i64 5])]) ∧ Below w.heap.size w w') := fun w => rn_none (k := 0) (n := 6) w hs (Nat.zero_le _) (by omega) h
  clear h
  go_enter Tryd.func25, Tryd.ntmps25
  go_wp2_with fail
  generalize w.alloc (.cells #[.int .i64 0, .int .i64 0, .int .i64 0, .int .i64 0, .slice none 0 0] 24) = w1 at X0 b0 ⊢
  refine (H6.out w1).mono ?_
  rintro e w2 ⟨rfl, k2⟩
  have Y0 := X0.later k2
  have b2 := b0.trans (k2.mono b0.size)
  obtain ⟨y0, y1, y2, y3, y4, f0, f1, f2, f3, f4⟩ := Y0.fiveC
  have R5 := (((((Y0.set 0 (.int .i64 0)).set 1 (.int .i64 0)).set 2 (.int .i64 0)).set 3 (.int .i64 0)).set 4 (.slice none 0 0))
  obtain ⟨u0, u1, u2, u3, u4, _⟩ := R5.fiveC
  have B5 := Lib.hid (((((b2.setCell (p := ⟨w.heap.size, 0, none⟩) (Nat.le_refl _) (.int .i64 0)).setCell (p := ⟨w.heap.size, 1, none⟩) (Nat.le_refl _) (.int .i64 0)).setCell (p := ⟨w.heap.size, 2, none⟩) (Nat.le_refl _) (.int .i64 0)).setCell (p := ⟨w.heap.size, 3, none⟩) (Nat.le_refl _) (.int .i64 0)).setCell (p := ⟨w.heap.size, 4, none⟩) (Nat.le_refl _) (.slice none 0 0))
  clear X0 b0 k2 Y0 b2 R5
  go_wp2_with fail
  refine bodyPost_ret (v := .tuple #[.agg #[.int .i64 0, .int .i64 0, .int .i64 0, .int .i64 0, .slice none 0 0], .iface 60 (.agg #[.int .i64 5])]) (by simp [results, Tryd.results25, go_sem, u0, u1, u2, u3, u4]) rfl ?_
  exact ⟨⟨5, by decide, rfl⟩, B5.out⟩

theorem Rows'.six {w : World} {v : Value} {l st ng ns nv m : Nat} (h : Rows' intE w v (intsN [l, st, ng, ns, nv, m])) : ∃ (g off cap : Nat), v = .slice (some ⟨g, off, none⟩) 6 cap ∧ 6 ≤ cap ∧ ∀ X, Below w.heap.size w X → X.cell? ⟨g, off + 1, none⟩ = some (.int .i64 (st : Int)) ∧ X.cell? ⟨g, off + 2, none⟩ = some (.int .i64 (ng : Int)) ∧ X.cell? ⟨g, off + 3, none⟩ = some (.int .i64 (ns : Int)) ∧ X.cell? ⟨g, off + 4, none⟩ = some (.int .i64 (nv : Int)) ∧ X.cell? ⟨g, off + 5, none⟩ = some (.int .i64 (m : Int)) := by
  rcases h.ways with ⟨e, _⟩ | ⟨_, g, off, cap, rfl, hc, hg, hcl⟩
  · cases e
  · refine ⟨g, off, cap, rfl, hc, fun X hb => ?_⟩
    have k := fun (i : Nat) (x : Int) (hi : (intsN [l, st, ng, ns, nv, m])[i]? = some x) => (hb.cell (p := ⟨g, off + i * intE.sz + 0, none⟩) hg).trans (hcl i x hi 0 _ rfl)
    simp only [show intE.sz = 1 from rfl, Nat.mul_one, Nat.add_zero] at k
    exact ⟨k 1 _ rfl, k 2 _ rfl, k 3 _ rfl, k 4 _ rfl, k 5 _ rfl⟩

set_option maxRecDepth 100000 in
set_option maxHeartbeats 2000000 in
theorem readUn11 (t : ByteArray) (w : World) (hs : t.size ≤ 1099511627776) {l st ng ns nv m p : Nat} (h : rdNs t.data.toList 0 6 = some ([l, st, ng, ns, nv, m], p)) (hm : 11 < m) :
    Calls Tryd.prog 25 #[.string t] w fun e w' => UnMiss e ∧ Below w.heap.size w w' := by
  have X0 := Box.new w #[.int .i64 0, .int .i64 0, .int .i64 0, .int .i64 0, .slice none 0 0] 24
  have b0 := belNew w (.cells #[.int .i64 0, .int .i64 0, .int .i64 0, .int .i64 0, .slice none 0 0] 24)
  have H6 : Hid (∀ w, Calls Tryd.prog 32 #[.string t, .int .i64 0, .int .i64 6] w fun e w' => ∃ v, e = .returned (.tuple #[v, .int .i64 (p : Int), .nilIface]) ∧ RBuf intE w.heap.size w w' v (intsN [l, st, ng, ns, nv, m])) := fun w => rn_some (k := 0) (n := 6) w hs (Nat.zero_le _) (by omega) h
  clear h
  have hm1 : (11 : Int) < (m : Int) := by omega
  go_enter Tryd.func25, Tryd.ntmps25
  go_wp2_with fail
  generalize w.alloc (.cells #[.int .i64 0, .int .i64 0, .int .i64 0, .int .i64 0, .slice none 0 0] 24) = w1 at X0 b0 ⊢
  refine (H6.out w1).mono ?_
  rintro e w2 ⟨v, rfl, I⟩
  have k2 := I.bel
  obtain ⟨g, off, cap, rfl, hc, hcs⟩ := I.rows.six
  obtain ⟨_, _, _, _, c5⟩ := hcs w2 (Below.refl _ _)
  have Y0 := X0.later k2
  have b2 := b0.trans (k2.mono b0.size)
  obtain ⟨y0, y1, y2, y3, y4, f0, f1, f2, f3, f4⟩ := Y0.fiveC
  have R5 := (((((Y0.set 0 (.int .i64 0)).set 1 (.int .i64 0)).set 2 (.int .i64 0)).set 3 (.int .i64 0)).set 4 (.slice none 0 0))
  obtain ⟨u0, u1, u2, u3, u4, _⟩ := R5.fiveC
  have B5 := Lib.hid (((((b2.setCell (p := ⟨w.heap.size, 0, none⟩) (Nat.le_refl _) (.int .i64 0)).setCell (p := ⟨w.heap.size, 1, none⟩) (Nat.le_refl _) (.int .i64 0)).setCell (p := ⟨w.heap.size, 2, none⟩) (Nat.le_refl _) (.int .i64 0)).setCell (p := ⟨w.heap.size, 3, none⟩) (Nat.le_refl _) (.int .i64 0)).setCell (p := ⟨w.heap.size, 4, none⟩) (Nat.le_refl _) (.slice none 0 0))
  clear X0 b0 k2 Y0 b2 R5 I hcs
  go_wp2_with fail
  refine bodyPost_ret (v := .tuple #[.agg #[.int .i64 0, .int .i64 0, .int .i64 0, .int .i64 0, .slice none 0 0], .iface 60 (.agg #[.int .i64 2])]) (by simp [results, Tryd.results25, go_sem, u0, u1, u2, u3, u4]) rfl ?_
  exact ⟨⟨2, by decide, rfl⟩, B5.out⟩

set_option maxRecDepth 100000 in
set_option maxHeartbeats 2000000 in
theorem readUnQ (t : ByteArray) (w : World) (hs : t.size ≤ 1099511627776) {l st ng ns nv m p : Nat} (h : rdNs t.data.toList 0 6 = some ([l, st, ng, ns, nv, m], p)) (hm : m ≤ 11) (h2 : rdNs t.data.toList p (2 * m) = none) :
    Calls Tryd.prog 25 #[.string t] w fun e w' => UnMiss e ∧ Below w.heap.size w w' := by
  have X0 := Box.new w #[.int .i64 0, .int .i64 0, .int .i64 0, .int .i64 0, .slice none 0 0] 24
  have b0 := belNew w (.cells #[.int .i64 0, .int .i64 0, .int .i64 0, .int .i64 0, .slice none 0 0] 24)
  have hp : p ≤ t.size := by have := (rdNs_le (l := t.data.toList) (Nat.zero_le _) 6 _ p h).1; simpa using this
  have H6 : Hid (∀ w, Calls Tryd.prog 32 #[.string t, .int .i64 0, .int .i64 6] w fun e w' => ∃ v, e = .returned (.tuple #[v, .int .i64 (p : Int), .nilIface]) ∧ RBuf intE w.heap.size w w' v (intsN [l, st, ng, ns, nv, m])) := fun w => rn_some (k := 0) (n := 6) w hs (Nat.zero_le _) (by omega) h
  have HQ : Hid (∀ w, Calls Tryd.prog 32 #[.string t, .int .i64 (p : Int), .int .i64 (2 * (m : Int))] w fun e w' => e = .returned (.tuple #[.slice none 0 0, .int .i64 0, .iface 60 (.agg #[.int .i64 5])]) ∧ Below w.heap.size w w') := fun w => by have := rn_none (k := p) (n := 2 * m) w hs hp (by omega) h2; rw [show ((2 * m : Nat) : Int) = 2 * (m : Int) by omega] at this; exact this
  clear h h2
  have hm1 : ¬ (11 : Int) < (m : Int) := by omega
  have hw2 : IntKind.i64.wrap (2 * (m : Int)) = 2 * (m : Int) := IntWalk.i64_in _ ⟨by omega, by omega⟩
  go_enter Tryd.func25, Tryd.ntmps25
  go_wp2_with fail
  generalize w.alloc (.cells #[.int .i64 0, .int .i64 0, .int .i64 0, .int .i64 0, .slice none 0 0] 24) = w1 at X0 b0 ⊢
  refine (H6.out w1).mono ?_
  rintro e w2 ⟨v, rfl, I⟩
  have k2 := I.bel
  obtain ⟨g, off, cap, rfl, hc, hcs⟩ := I.rows.six
  obtain ⟨_, _, _, _, c5⟩ := hcs w2 (Below.refl _ _)
  have Y0 := X0.later k2
  have b2 := b0.trans (k2.mono b0.size)
  clear X0 b0 k2 I hcs
  go_wp2_with fail
  refine (HQ.out w2).mono ?_
  rintro e w3 ⟨rfl, k3⟩
  have Z0 := Y0.later k3
  have b3 := b2.trans (k3.mono b2.size)
  obtain ⟨y0, y1, y2, y3, y4, f0, f1, f2, f3, f4⟩ := Z0.fiveC
  have R5 := (((((Z0.set 0 (.int .i64 0)).set 1 (.int .i64 0)).set 2 (.int .i64 0)).set 3 (.int .i64 0)).set 4 (.slice none 0 0))
  obtain ⟨u0, u1, u2, u3, u4, _⟩ := R5.fiveC
  have B5 := Lib.hid (((((b3.setCell (p := ⟨w.heap.size, 0, none⟩) (Nat.le_refl _) (.int .i64 0)).setCell (p := ⟨w.heap.size, 1, none⟩) (Nat.le_refl _) (.int .i64 0)).setCell (p := ⟨w.heap.size, 2, none⟩) (Nat.le_refl _) (.int .i64 0)).setCell (p := ⟨w.heap.size, 3, none⟩) (Nat.le_refl _) (.int .i64 0)).setCell (p := ⟨w.heap.size, 4, none⟩) (Nat.le_refl _) (.slice none 0 0))
  clear Y0 b2 Z0 b3 k3 R5 c5
  go_wp2_with fail
  refine bodyPost_ret (v := .tuple #[.agg #[.int .i64 0, .int .i64 0, .int .i64 0, .int .i64 0, .slice none 0 0], .iface 60 (.agg #[.int .i64 5])]) (by simp [results, Tryd.results25, go_sem, u0, u1, u2, u3, u4]) rfl ?_
  exact ⟨⟨5, by decide, rfl⟩, B5.out⟩

end Go.Proofs.YtlnpegknjhbdnaaDoor

/- While readUnsealedCheck gathers the references: what lies where. -/
namespace Go.Proofs.YtlnpegknjhbdnaaDoor
open Go.RowKit Go.Shelf

theorem Box.butU {w X : World} {b : Nat} {cs : Array Value} {t : TypeId} {r : Option Nat} (h : Box w b cs t) (hg : w.grownBy X r) (hne : ∀ k, r = some k → k ≠ b) : Box X b cs t := (hg.block b h.lt (fun e => hne b e.symm rfl)).trans h

structure UnI (w0 : World) (Bs Bn g off gR gC E : Nat) (tC : TypeId) (st ng ns nv : Int) (sl : Value) (qs : List Nat) (X : World) (a : Option Addr) (n cap : Nat) (l : List Rf) : Prop where
  ch0 : X.cell? ⟨Bs, 0, none⟩ = some sl
  ch1 : X.cell? ⟨Bn, 0, none⟩ = some (.int .i64 2)
  prs : ∀ (i q : Nat), qs[i]? = some q → X.cell? ⟨g, off + i, none⟩ = some (.int .i64 (q : Int))
  res : Box X gR #[.int .i64 0, .int .i64 0, .int .i64 0, .int .i64 0, .slice none 0 0] tC
  chk : Box X gC #[.int .i64 st, .int .i64 ng, .int .i64 ns, .int .i64 nv, .slice a n cap] tC
  own : X.ownsRow (E + 2) rfE.ty rfE.sz (.slice a n cap) l.length (rfE.row l)
  bel : Below w0.heap.size w0 X
  le : E ≤ X.heap.size
/-- What lies where of it. -/
structure UnB (w0 : World) (Bs Bn g gR gC E : Nat) : Prop where
  lt : Bs < E ∧ Bn < E ∧ gR < E ∧ gC < E
  low : w0.heap.size ≤ gR ∧ w0.heap.size ≤ gC ∧ w0.heap.size ≤ E
  ne : Bs ≠ gC ∧ Bn ≠ gC ∧ g ≠ gC ∧ gR ≠ gC
  gl : g < E

variable {w0 : World} {Bs Bn g off gR gC E : Nat} {tC : TypeId} {st ng ns nv : Int} {sl : Value} {qs : List Nat} {X Y : World} {a : Option Addr} {n cap : Nat} {l m : List Rf}

theorem UnI.kept {row : Option Nat} (h : UnI w0 Bs Bn g off gR gC E tC st ng ns nv sl qs X a n cap l) (b : UnB w0 Bs Bn g gR gC E) (hg : X.grownBy Y row) (hr : ∀ r, row = some r → r = E ∨ r = E + 1) : UnI w0 Bs Bn g off gR gC E tC st ng ns nv sl qs Y a n cap l := by
  obtain ⟨b1, b2, b3, b4⟩ := b.lt
  obtain ⟨l1, l2, l3⟩ := b.low
  have ne : ∀ k, k < E → some k ≠ row := fun k hk e => by have := hr k e.symm; omega
  refine ⟨hg.cell h.ch0 (ne _ b1), hg.cell h.ch1 (ne _ b2), fun i q hi => hg.cell (h.prs i q hi) (ne _ b.gl), h.res.butU hg (fun k hk => by have := hr k hk; omega), h.chk.butU hg (fun k hk => by have := hr k hk; omega), h.own.kept hg ?_, h.bel.grown hg h.bel.size (fun k hk => by have := hr k hk; omega), Nat.le_trans h.le hg.size⟩
  cases hv : (Value.slice a n cap).ownBlock with
  | none => exact .inl rfl
  | some k =>
    right
    intro e
    have := hr k e.symm
    have := (h.own.lt k hv).1
    omega
theorem UnI.later (h : UnI w0 Bs Bn g off gR gC E tC st ng ns nv sl qs X a n cap l) (b : UnB w0 Bs Bn g gR gC E) (hb : Below X.heap.size X Y) : UnI w0 Bs Bn g off gR gC E tC st ng ns nv sl qs Y a n cap l :=
  h.kept b (row := none) ⟨hb.os, hb.tape, hb.output, hb.size, fun k hk _ => hb.block k hk⟩ (fun r e => by cases e)
theorem UnI.refs (h : UnI w0 Bs Bn g off gR gC E tC st ng ns nv sl qs X a n cap l) (hE : E + 2 ≤ X.heap.size) : RBuf rfE (E + 2) X X (.slice a n cap) l := ⟨h.own, Below.refl _ _, hE⟩
/-- At the end. -/
theorem UnI.fin (h : UnI w0 Bs Bn g off gR gC E tC st ng ns nv sl qs X a n cap l) (b : UnB w0 Bs Bn g gR gC E) : RBuf rfE w0.heap.size w0 X (.slice a n cap) l := by
  have hB : w0.heap.size ≤ E + 2 := by have := b.low; omega
  refine ⟨⟨h.own.1, ?_⟩, h.bel, h.bel.size⟩
  rcases h.own.2 with h1 | ⟨g, cap, cur, h1, h2, h3⟩
  · exact .inl h1
  · exact .inr ⟨g, cap, cur, h1, Nat.le_trans hB h2, h3⟩
theorem UnI.away (h : UnI w0 Bs Bn g off gR gC E tC st ng ns nv sl qs X a n cap l) {k : Nat} (hk : k < E + 2) : (Value.slice a n cap).ownBlock = none ∨ (Value.slice a n cap).ownBlock ≠ some k := .inr fun e => by
  have := (h.own.lt k e).1
  omega
/-- The cells behind the append. -/
theorem UnI.cells (h : UnI w0 Bs Bn g off gR gC E tC st ng ns nv sl qs X a n cap l) (b : UnB w0 Bs Bn g gR gC E) (hg : X.grownBy Y (Value.slice a n cap).ownBlock) : Y.cell? ⟨gC, 4, none⟩ = some (.slice a n cap) ∧ Y.frozen? ⟨gC, 4, none⟩ = false ∧ ∀ (i q : Nat), qs[i]? = some q → Y.cell? ⟨g, off + i, none⟩ = some (.int .i64 (q : Int)) := by
  have hne : ∀ k, (Value.slice a n cap).ownBlock = some k → E + 2 ≤ k := fun k hk => (h.own.lt k hk).1
  have b3 := h.chk.butU hg (fun k hk => by have := hne k hk; have := b.lt; omega)
  exact ⟨b3.cell 4 _ rfl, b3.loose 4, fun i q hi => hg.cell (h.prs i q hi) (fun e => by have := hne g e.symm; have := b.gl; omega)⟩
theorem UnI.push (h : UnI w0 Bs Bn g off gR gC E tC st ng ns nv sl qs X a n cap l) (b : UnB w0 Bs Bn g gR gC E) (hE : E + 2 ≤ X.heap.size)
    (a2 : Option Addr) (n2 c2 : Nat) (hr : RBuf rfE (E + 2) Y Y (.slice a2 n2 c2) m) (hg : X.grownBy Y (Value.slice a n cap).ownBlock) :
    UnI w0 Bs Bn g off gR gC E tC st ng ns nv sl qs (Y.setCell ⟨gC, 4, none⟩ (.slice a2 n2 c2)) a2 n2 c2 m ∧ X.heap.size ≤ (Y.setCell ⟨gC, 4, none⟩ (.slice a2 n2 c2)).heap.size ∧ (Y.setCell ⟨gC, 4, none⟩ (.slice a2 n2 c2)).heap[E]? = X.heap[E]? ∧ (Y.setCell ⟨gC, 4, none⟩ (.slice a2 n2 c2)).heap[E + 1]? = X.heap[E + 1]? := by
  obtain ⟨b1, b2, b3, b4⟩ := b.lt
  obtain ⟨l1, l2, l3⟩ := b.low
  obtain ⟨n1, n2', n3, n4⟩ := b.ne
  have bg := b.gl
  have hne : ∀ k, (Value.slice a n cap).ownBlock = some k → E + 2 ≤ k := fun k hk => (h.own.lt k hk).1
  have h1 : ∀ k, k < E + 2 → some k ≠ (Value.slice a n cap).ownBlock := fun k hk e => by have := hne k e.symm; omega
  have hs := stored_grown Y gC 4 (.slice a2 n2 c2)
  have h2 : ∀ k, k ≠ gC → some k ≠ some gC := fun k hk e => hk (Option.some.inj e)
  have hYs : X.heap.size ≤ Y.heap.size := hg.size
  refine ⟨⟨hs.cell (hg.cell h.ch0 (h1 _ (by simp; omega))) (h2 _ n1), hs.cell (hg.cell h.ch1 (h1 _ (by simp; omega))) (h2 _ n2'), fun i q hi => hs.cell (hg.cell (h.prs i q hi) (h1 _ (by simp; omega))) (h2 _ n3), ?_, ?_, ?_, ?_, ?_⟩, ?_, ?_, ?_⟩
  · exact (h.res.butU hg (fun k hk => by have := hne k hk; omega)).other n4 _ _
  · exact (h.chk.butU hg (fun k hk => by have := hne k hk; omega)).set 4 _
  · refine (hr.shift hs ?_).own
    cases hb : (Value.slice a2 n2 c2).ownBlock with
    | none => exact .inl rfl
    | some k =>
      right
      intro e
      have e1 : k = gC := Option.some.inj e
      have := (hr.own.lt k hb).1
      omega
  · exact (h.bel.grown hg h.bel.size (fun k hk => by have := hne k hk; omega)).setCell (p := ⟨gC, 4, none⟩) l2 _
  · exact Nat.le_trans (Nat.le_trans h.le hYs) hs.size
  · exact Nat.le_trans hYs hs.size
  · exact (hs.block E (by omega) (h2 _ (by omega))).trans (hg.block E (by omega) (h1 _ (by omega)))
  · exact (hs.block (E + 1) (by omega) (h2 _ (by omega))).trans (hg.block (E + 1) (by omega) (h1 _ (by omega)))

end Go.Proofs.YtlnpegknjhbdnaaDoor

/- readUnsealedCheck of the program, where the numbers are there. -/
namespace Go.Proofs.YtlnpegknjhbdnaaDoor
open Go.RowKit Go.Shelf

attribute [local go_sem] Oper.semAt_some

/-- A piece that goes on alone. -/
theorem wp_strict {P : Program} {c : Go.Code} {K : Act → World → Prop} {Q' : Exit → Act → World → Prop} {a : Act} {w : World} (h : c.wp P (Exit.then K (fun _ _ _ => False)) a w) : c.wp P (Exit.then K Q') a w :=
  wp_mono h fun e a w he => by cases e <;> first | exact he | exact he.elim

theorem prsI_take {qs : List Nat} {x q0 q1 : Nat} (h0 : qs[2 * x]? = some q0) (h1 : qs[2 * x + 1]? = some q1) : prsI (qs.take (2 * (x + 1))) = prsI (qs.take (2 * x)) ++ [((q0 : Int), (q1 : Int))] := by
  have hl : 2 * x < qs.length := (List.getElem?_eq_some_iff.1 h0).1
  rw [show 2 * (x + 1) = 2 * x + 1 + 1 by omega, List.take_add_one, List.take_add_one, h0, h1, List.append_assoc]
  exact prsI_two _ q0 q1 (by rw [List.length_take]; omega)

/-- A range whose one value goes to one place. -/
theorem wpIn_range_pl1 {α : Type} {n : Nat} {P : Program} {g : Operand} {d s : Tmp} {assign body : Go.Code} {Q : Exit → Act → World → Prop} {a : Act} {w : World} (h1 : 1 ≤ n)
    {gf : Nat} {lb : Array Value} (hg : a.eval g = .func (.func gf) #[] lb) (eg : ∀ args w, (callFunc gf args).run P w = .ok (.enter gf args) w)
    {encs : α → Array Value} (enc : α → Value) (he : ∀ x, encs x = #[enc x]) {Kn : World → Prop} {Ok : List α → α → Prop} {S : List α → Prop} (hseq : SeqPl (n - 1) P gf lb encs Kn Ok S (w.heap.size + 2))
    (I : List α → World → Prop) (hK : ∀ pre X, I pre X → Kn X)
    (hI : ∀ pre X Y row, I pre X → X.grownBy Y row → (∀ r, row = some r → r = w.heap.size ∨ r = w.heap.size + 1) → I pre Y)
    (h0 : I [] w)
    (hassign : ∀ (l : Nat) (x : α) (W : World) (K : Act → World → Prop), K { tmps := (a.tmps.setIfInBounds d (enc x)).setIfInBounds s (enc x), defers := [] } W →
      assign.wpIn (Fence.wide.inRound l) (n - 1 - 1) P (Exit.then K (fun _ _ _ => False)) { tmps := a.tmps.setIfInBounds d (enc x), defers := [] } W)
    (hbody : ∀ (l : Nat) (pre : List α) (x : α) (W : World), w.heap.size + 2 ≤ W.heap.size → I pre W → Ok pre x → body.wpIn (Fence.wide.inRound l) (n - 1 - 1) P (RoundPl w.heap.size (fun W' => I (pre ++ [x]) W') W) { tmps := (a.tmps.setIfInBounds d (enc x)).setIfInBounds s (enc x), defers := [] } W)
    (hdone : ∀ (D : Nat) (xs : List α) (W : World), D = w.heap.size → S xs → I xs W → W.heap[D]? = some (.deferred (some [])) → Q .normal { a with defers := { target := .collected D, args := #[] } :: a.defers } W) :
    (Code.rangeFunc g #[d] assign body).wpIn Fence.wide n P Q a w :=
  wpIn_range_pl h1 hg eg (fun x => by rw [he]; rfl) hseq I hK hI h0 (fun x a' _ => a' = { tmps := (a.tmps.setIfInBounds d (enc x)).setIfInBounds s (enc x), defers := [] })
    (fun l x W K _ hKK => by
      have e : (#[d].zip #[enc x]).foldl (fun t (p, v) => t.setIfInBounds p v) a.tmps = a.tmps.setIfInBounds d (enc x) := by simp
      rw [he, e]; exact hassign l x W K (hKK _ _ (World.grownBy.refl _ _) rfl))
    (fun l pre x a' W hW hi hok W0 _ hax => by rw [hax]; exact hbody l pre x W hW hi hok) hdone

theorem Rows'.prs {w : World} {v : Value} {qs : List Nat} (hw : w.heap.size - 1 < w.heap.size) (h : Rows' intE w v (intsN qs)) : ∃ (ad : Option Addr) (g off cap : Nat), v = .slice ad qs.length cap ∧ qs.length ≤ cap ∧ g < w.heap.size ∧ (0 < qs.length → ad = some ⟨g, off, none⟩) ∧ ∀ X, Below w.heap.size w X → ∀ (i q : Nat), qs[i]? = some q → X.cell? ⟨g, off + i, none⟩ = some (.int .i64 (q : Int)) := by
  rcases h.ways with ⟨e, a, cap, rfl⟩ | ⟨_, g, off, cap, rfl, hc, hg, hcl⟩
  · have e0 : qs = [] := List.map_eq_nil_iff.1 e
    subst e0
    exact ⟨a, w.heap.size - 1, 0, cap, rfl, Nat.zero_le _, hw, fun h => absurd h (by simp), fun X _ i q hi => by cases hi⟩
  · rw [intsN_len] at hc ⊢
    refine ⟨_, g, off, cap, rfl, hc, hg, fun _ => rfl, fun X hb i q hi => ?_⟩
    have k := (hb.cell (p := ⟨g, off + i * intE.sz + 0, none⟩) hg).trans (hcl i (q : Int) (by rw [intsN, List.getElem?_map, hi]; rfl) 0 _ rfl)
    simpa only [show intE.sz = 1 from rfl, Nat.mul_one, Nat.add_zero] using k

set_option maxRecDepth 100000 in
set_option maxHeartbeats 4000000 in
theorem readUnOk (t : ByteArray) (w : World) (hs : t.size ≤ 1099511627776) {l st ng ns nv m p q : Nat} {qs : List Nat} (h : rdNs t.data.toList 0 6 = some ([l, st, ng, ns, nv, m], p)) (hm : m ≤ 11) (h2 : rdNs t.data.toList p (2 * m) = some (qs, q)) :
    Calls Tryd.prog 25 #[.string t] w fun e w' => ∃ (a : Option Addr) (cap : Nat), e = .returned (.tuple #[.agg #[.int .i64 (st : Int), .int .i64 (ng : Int), .int .i64 (ns : Int), .int .i64 (nv : Int), .slice a (prsI qs).length cap], .nilIface]) ∧ RBuf rfE w.heap.size w w' (.slice a (prsI qs).length cap) (prsI qs) := by
  have X0 := Box.new w #[.int .i64 0, .int .i64 0, .int .i64 0, .int .i64 0, .slice none 0 0] 24
  have b0 := belNew w (.cells #[.int .i64 0, .int .i64 0, .int .i64 0, .int .i64 0, .slice none 0 0] 24)
  have hp : p ≤ t.size := by have := (rdNs_le (l := t.data.toList) (Nat.zero_le _) 6 _ p h).1; simpa using this
  have hql : qs.length = 2 * m := (rdNs_le (l := t.data.toList) (by simpa using hp) (2 * m) _ q h2).2.1
  have H6 : Hid (∀ w, Calls Tryd.prog 32 #[.string t, .int .i64 0, .int .i64 6] w fun e w' => ∃ v, e = .returned (.tuple #[v, .int .i64 (p : Int), .nilIface]) ∧ RBuf intE w.heap.size w w' v (intsN [l, st, ng, ns, nv, m])) := fun w => rn_some (k := 0) (n := 6) w hs (Nat.zero_le _) (by omega) h
  have HQ : Hid (∀ w, Calls Tryd.prog 32 #[.string t, .int .i64 (p : Int), .int .i64 (2 * (m : Int))] w fun e w' => ∃ v, e = .returned (.tuple #[v, .int .i64 (q : Int), .nilIface]) ∧ RBuf intE w.heap.size w w' v (intsN qs)) := fun w => by have := rn_some (k := p) (n := 2 * m) w hs hp (by omega) h2; rw [show ((2 * m : Nat) : Int) = 2 * (m : Int) by omega] at this; exact this
  have HL := Lib.hid hql
  clear h h2 hql
  have hm1 : ¬ (11 : Int) < (m : Int) := by omega
  have hw2 : IntKind.i64.wrap (2 * (m : Int)) = 2 * (m : Int) := IntWalk.i64_in _ ⟨by omega, by omega⟩
  refine (callsIn_wide (n := 5)).1 ?_
  refine callsIn_of_wp_marks Tryd.func25 rfl trivial ?_ rfl
  simp only [Tryd.ntmps25, List.size_toArray, List.length_cons, List.length_nil, Nat.reduceAdd, Nat.reduceSub, Array.replicate_succ, Array.replicate_zero, List.push_toArray, List.append_toArray, List.nil_append, List.cons_append]
  refine wpIn_wide.2 ?_
  go_wp2_with fail
  generalize w.alloc (.cells #[.int .i64 0, .int .i64 0, .int .i64 0, .int .i64 0, .slice none 0 0] 24) = w1 at X0 b0 ⊢
  refine (H6.out w1).mono ?_
  rintro e w2 ⟨v, rfl, I⟩
  have k2 := I.bel
  obtain ⟨g, off, cap, rfl, hc, hcs⟩ := I.rows.six
  obtain ⟨_, _, _, _, c5⟩ := hcs w2 (Below.refl _ _)
  have HC := Lib.hid hcs
  have Y0 := X0.later k2
  have b2 := b0.trans (k2.mono b0.size)
  clear X0 b0 k2 I hcs
  go_wp2_with fail
  refine (HQ.out w2).mono ?_
  rintro e w3 ⟨v, rfl, I⟩
  have k3 := I.bel
  obtain ⟨ad, gq, oq, cq, rfl, hcq, hgq, had, hpr⟩ := I.rows.prs (by have := I.bel.size; have := Y0.lt; omega)
  have HP := Lib.hid hpr
  have HA := Lib.hid had
  rw [HL.out] at hcq ⊢
  have Z0 := Y0.later k3
  have b3 := b2.trans (k3.mono b2.size)
  replace HC : Hid (∀ X, Below w3.heap.size w3 X → X.cell? ⟨g, off + 1, none⟩ = some (.int .i64 (st : Int)) ∧ X.cell? ⟨g, off + 2, none⟩ = some (.int .i64 (ng : Int)) ∧ X.cell? ⟨g, off + 3, none⟩ = some (.int .i64 (ns : Int)) ∧ X.cell? ⟨g, off + 4, none⟩ = some (.int .i64 (nv : Int)) ∧ X.cell? ⟨g, off + 5, none⟩ = some (.int .i64 (m : Int))) := fun X hX => HC.out X (k3.trans (hX.mono k3.size))
  clear Y0 b2 k3 I hpr had c5
  go_wp2_with fail
  have HZ0 := Lib.hid Z0
  have Hb3 := Lib.hid b3
  clear Z0 b3
  refine wp_strict ?_
  refine wp_region_held_drew (S := fun x => Below w3.heap.size w3 x) (by kernel_rfl) ((Below.refl _ _).drew) (fun hHeld => ?_)
  refine takeL (i := 0) (v := .slice (some ⟨g, off, none⟩) 6 cap) rfl (by kernel_rfl) (by kernel_rfl) (by kernel_rfl) (fun _ _ _ h => h) (Or.inl ⟨by rfl, ?_⟩) (by assumption) ?_
  · intro x hSx; go_simp
  try simp only [Act.put, List.setIfInBounds_toArray, List.set_cons_zero, List.set_cons_succ]
  refine takeL (i := 1) (v := .pointer (some ⟨g, off + 1, none⟩)) rfl (by kernel_rfl) (by kernel_rfl) (by kernel_rfl) (fun _ _ _ h => h) (Or.inl ⟨by rfl, ?_⟩) (by assumption) ?_
  · intro x hSx; go_simp
  try simp only [Act.put, List.setIfInBounds_toArray, List.set_cons_zero, List.set_cons_succ]
  refine takeL (i := 2) (v := .int .i64 (st : Int)) rfl (by kernel_rfl) (by kernel_rfl) (by kernel_rfl) (fun _ _ _ h => h) (Or.inl ⟨by rfl, ?_⟩) (by assumption) ?_
  · intro x hSx; obtain ⟨d1, d2, d3, d4, d5⟩ := HC.out x hSx; go_simp
  try simp only [Act.put, List.setIfInBounds_toArray, List.set_cons_zero, List.set_cons_succ]
  refine takeL (i := 3) (v := .slice (some ⟨g, off, none⟩) 6 cap) rfl (by kernel_rfl) (by kernel_rfl) (by kernel_rfl) (fun _ _ _ h => h) (Or.inl ⟨by rfl, ?_⟩) (by assumption) ?_
  · intro x hSx; go_simp
  try simp only [Act.put, List.setIfInBounds_toArray, List.set_cons_zero, List.set_cons_succ]
  refine takeL (i := 4) (v := .pointer (some ⟨g, off + 2, none⟩)) rfl (by kernel_rfl) (by kernel_rfl) (by kernel_rfl) (fun _ _ _ h => h) (Or.inl ⟨by rfl, ?_⟩) (by assumption) ?_
  · intro x hSx; go_simp
  try simp only [Act.put, List.setIfInBounds_toArray, List.set_cons_zero, List.set_cons_succ]
  refine takeL (i := 5) (v := .int .i64 (ng : Int)) rfl (by kernel_rfl) (by kernel_rfl) (by kernel_rfl) (fun _ _ _ h => h) (Or.inl ⟨by rfl, ?_⟩) (by assumption) ?_
  · intro x hSx; obtain ⟨d1, d2, d3, d4, d5⟩ := HC.out x hSx; go_simp
  try simp only [Act.put, List.setIfInBounds_toArray, List.set_cons_zero, List.set_cons_succ]
  refine takeL (i := 6) (v := .slice (some ⟨g, off, none⟩) 6 cap) rfl (by kernel_rfl) (by kernel_rfl) (by kernel_rfl) (fun _ _ _ h => h) (Or.inl ⟨by rfl, ?_⟩) (by assumption) ?_
  · intro x hSx; go_simp
  try simp only [Act.put, List.setIfInBounds_toArray, List.set_cons_zero, List.set_cons_succ]
  refine takeL (i := 7) (v := .pointer (some ⟨g, off + 3, none⟩)) rfl (by kernel_rfl) (by kernel_rfl) (by kernel_rfl) (fun _ _ _ h => h) (Or.inl ⟨by rfl, ?_⟩) (by assumption) ?_
  · intro x hSx; go_simp
  try simp only [Act.put, List.setIfInBounds_toArray, List.set_cons_zero, List.set_cons_succ]
  refine takeL (i := 8) (v := .int .i64 (ns : Int)) rfl (by kernel_rfl) (by kernel_rfl) (by kernel_rfl) (fun _ _ _ h => h) (Or.inl ⟨by rfl, ?_⟩) (by assumption) ?_
  · intro x hSx; obtain ⟨d1, d2, d3, d4, d5⟩ := HC.out x hSx; go_simp
  try simp only [Act.put, List.setIfInBounds_toArray, List.set_cons_zero, List.set_cons_succ]
  refine takeL (i := 9) (v := .slice (some ⟨g, off, none⟩) 6 cap) rfl (by kernel_rfl) (by kernel_rfl) (by kernel_rfl) (fun _ _ _ h => h) (Or.inl ⟨by rfl, ?_⟩) (by assumption) ?_
  · intro x hSx; go_simp
  try simp only [Act.put, List.setIfInBounds_toArray, List.set_cons_zero, List.set_cons_succ]
  refine takeL (i := 10) (v := .pointer (some ⟨g, off + 4, none⟩)) rfl (by kernel_rfl) (by kernel_rfl) (by kernel_rfl) (fun _ _ _ h => h) (Or.inl ⟨by rfl, ?_⟩) (by assumption) ?_
  · intro x hSx; go_simp
  try simp only [Act.put, List.setIfInBounds_toArray, List.set_cons_zero, List.set_cons_succ]
  refine takeL (i := 11) (v := .int .i64 (nv : Int)) rfl (by kernel_rfl) (by kernel_rfl) (by kernel_rfl) (fun _ _ _ h => h) (Or.inl ⟨by rfl, ?_⟩) (by assumption) ?_
  · intro x hSx; obtain ⟨d1, d2, d3, d4, d5⟩ := HC.out x hSx; go_simp
  try simp only [Act.put, List.setIfInBounds_toArray, List.set_cons_zero, List.set_cons_succ]
  refine takeL (i := 12) (v := .agg #[.int .i64 (st : Int), .int .i64 (ng : Int), .int .i64 (ns : Int), .int .i64 (nv : Int), .slice none 0 0]) rfl (by kernel_rfl) (by kernel_rfl) (by kernel_rfl) (fun _ _ _ h => h) (Or.inl ⟨by rfl, ?_⟩) (by assumption) ?_
  · intro x hSx; go_simp
  try simp only [Act.put, List.setIfInBounds_toArray, List.set_cons_zero, List.set_cons_succ]
  refine wpAnyH_ready (rs := [13]) (by kernel_rfl) (by simp) ?_
  refine readyOne rfl (fun K' hK => ?_)
  go_simp
  refine hK.out _ _ (hHeld.trans ((belNew w3.drew (.cells #[.int .i64 0, .int .i64 0, .int .i64 0, .int .i64 0, .slice none 0 0] 24)).mono hHeld.size)) (fun hS2 => ?_)
  clear hK K' hHeld
  have hHeld := hS2
  clear hS2
  try simp only [Act.put, List.setIfInBounds_toArray, List.set_cons_zero, List.set_cons_succ]
  have B : Box ((w3.alloc (.cells #[.int .i64 0, .int .i64 0, .int .i64 0, .int .i64 0, .slice none 0 0] 24)).drew) w3.heap.size #[.int .i64 0, .int .i64 0, .int .i64 0, .int .i64 0, .slice none 0 0] 24 := Box.new w3.drew _ _
  generalize (w3.alloc (.cells #[.int .i64 0, .int .i64 0, .int .i64 0, .int .i64 0, .slice none 0 0] 24)).drew = XA at hHeld B ⊢
  refine wpAnyH_ready (rs := [14]) (by kernel_rfl) (by simp) ?_
  refine readyOne rfl (fun K' hK => ?_)
  obtain ⟨z0, z1, z2, z3, z4, f0, f1, f2, f3, f4⟩ := B.fiveC
  go_simp
  clear z0 z1 z2 z3 z4 f0 f1 f2 f3 f4
  have FB : Box (((((XA.setCell ⟨w3.heap.size, 0, none⟩ (.int .i64 (st : Int))).setCell ⟨w3.heap.size, 1, none⟩ (.int .i64 (ng : Int))).setCell ⟨w3.heap.size, 2, none⟩ (.int .i64 (ns : Int))).setCell ⟨w3.heap.size, 3, none⟩ (.int .i64 (nv : Int))).setCell ⟨w3.heap.size, 4, none⟩ (.slice none 0 0)) w3.heap.size #[.int .i64 (st : Int), .int .i64 (ng : Int), .int .i64 (ns : Int), .int .i64 (nv : Int), .slice none 0 0] 24 := ((((B.set 0 _).set 1 _).set 2 _).set 3 _).set 4 _
  have hB4 := (((((hHeld.setCell (p := ⟨w3.heap.size, 0, none⟩) (Nat.le_refl _) (.int .i64 (st : Int))).setCell (p := ⟨w3.heap.size, 1, none⟩) (Nat.le_refl _) (.int .i64 (ng : Int))).setCell (p := ⟨w3.heap.size, 2, none⟩) (Nat.le_refl _) (.int .i64 (ns : Int))).setCell (p := ⟨w3.heap.size, 3, none⟩) (Nat.le_refl _) (.int .i64 (nv : Int))).setCell (p := ⟨w3.heap.size, 4, none⟩) (Nat.le_refl _) (.slice none 0 0))
  refine hK.out _ _ hB4 (fun hS2 => ?_)
  clear hK K' hHeld hS2 B
  generalize (((((XA.setCell ⟨w3.heap.size, 0, none⟩ (.int .i64 (st : Int))).setCell ⟨w3.heap.size, 1, none⟩ (.int .i64 (ng : Int))).setCell ⟨w3.heap.size, 2, none⟩ (.int .i64 (ns : Int))).setCell ⟨w3.heap.size, 3, none⟩ (.int .i64 (nv : Int))).setCell ⟨w3.heap.size, 4, none⟩ (.slice none 0 0)) = W4 at FB hB4 ⊢
  try simp only [Act.put, List.setIfInBounds_toArray, List.set_cons_zero, List.set_cons_succ]
  refine wpAnyH_done (by kernel_rfl) ?_ _
  have HFB := Lib.hid FB
  have HB4 := Lib.hid hB4
  clear FB hB4
  go_wp2_with (go_at_call 33; refine (callsIn_wide.1 (chunk_in 0 _ _ _ _)).mono ?_; rintro e w' ⟨rfl, rfl⟩)
  have C1 : Box ((W4.alloc (.cells #[.slice ad (2 * m) cq] 68)).alloc (.cells #[.int .i64 2] 3)) W4.heap.size #[.slice ad (2 * m) cq] 68 := (Box.new W4 _ _).later (belNew _ _)
  have C2 : Box ((W4.alloc (.cells #[.slice ad (2 * m) cq] 68)).alloc (.cells #[.int .i64 2] 3)) (W4.heap.size + 1) #[.int .i64 2] 3 := by
    have := Box.new (W4.alloc (.cells #[.slice ad (2 * m) cq] 68)) #[.int .i64 2] 3
    rwa [World.size_alloc] at this
  have K5 : Below W4.heap.size W4 ((W4.alloc (.cells #[.slice ad (2 * m) cq] 68)).alloc (.cells #[.int .i64 2] 3)) := (belNew W4 _).trans ((belNew _ _).mono (by simp))
  have z5 : ((W4.alloc (.cells #[.slice ad (2 * m) cq] 68)).alloc (.cells #[.int .i64 2] 3)).heap.size = W4.heap.size + 2 := by simp
  generalize (W4.alloc (.cells #[.slice ad (2 * m) cq] 68)).alloc (.cells #[.int .i64 2] 3) = W5 at C1 C2 K5 z5 ⊢
  have FB := HFB.out
  have b5 := HB4.out.trans (K5.mono HB4.out.size)
  have lt1 := HZ0.out.lt
  have lt2 := FB.lt
  have UB : UnB w W4.heap.size (W4.heap.size + 1) gq w.heap.size w3.heap.size W5.heap.size := ⟨⟨by omega, by omega, by omega, by omega⟩, ⟨by omega, by omega, by omega⟩, ⟨by omega, by omega, by omega, by omega⟩, by omega⟩
  have U0 : UnI w W4.heap.size (W4.heap.size + 1) gq oq w.heap.size w3.heap.size W5.heap.size 24 (st : Int) (ng : Int) (ns : Int) (nv : Int) (.slice ad (2 * m) cq) qs W5 none 0 0 [] := ⟨C1.cell 0 _ rfl, C2.cell 0 _ rfl, fun i q hi => HP.out W5 b5 i q hi, HZ0.out.later b5, FB.later K5, World.ownsRow_nil _ _ _ _, Hb3.out.trans (b5.mono Hb3.out.size), Nat.le_refl _⟩
  have HU0 := Lib.hid U0
  have HAm : 0 < m → ad = some ⟨gq, oq, none⟩ := fun h => HA.out (by rw [HL.out]; omega)
  have hm2 : 2 * m ≤ 1000000 := by omega
  clear C1 C2 K5 FB b5 lt1 lt2 U0 HFB HB4 HZ0 HC HP
  refine (wpIn_wide (n := 5)).1 ?_
  refine wpIn_range_pl1 (s := 11) (by omega) (gf := 47) (lb := #[.pointer (some ⟨W4.heap.size, 0, none⟩), .pointer (some ⟨W4.heap.size + 1, 0, none⟩)]) rfl (enters_of Tryd.func47 (by kernel_rfl) rfl)
    (fun x => .slice (some ⟨gq, oq + 2 * x, none⟩) 2 2) (fun _ => rfl) (chunk1_in 4 (by omega) _ _ gq oq cq (2 * m) m ad HAm rfl hcq hm2 _)
    (fun pre X => ∃ (a : Option Addr) (c : Nat), UnI w W4.heap.size (W4.heap.size + 1) gq oq w.heap.size w3.heap.size W5.heap.size 24 (st : Int) (ng : Int) (ns : Int) (nv : Int) (.slice ad (2 * m) cq) qs X a pre.length c (prsI (qs.take (2 * pre.length)))) (fun pre X ⟨_, _, h⟩ => ⟨h.ch0, h.ch1⟩) (fun pre X Y row ⟨a, c, h⟩ hg hr => ⟨a, c, h.kept UB hg hr⟩) ⟨none, 0, by simpa [prsI] using HU0.out⟩ ?assign ?body ?done
  case assign =>
    intro l' x W K hK
    simp only [List.setIfInBounds_toArray, List.set_cons_zero, List.set_cons_succ] at hK ⊢
    gi_wp2
    exact hK
  case body =>
    rintro l' pre x W hW ⟨a, c, U⟩ ⟨rfl, hx⟩
    rw [List.length_range] at U
    obtain ⟨q0, hq0⟩ : ∃ q, qs[2 * x]? = some q := ⟨_, List.getElem?_eq_getElem (by rw [HL.out]; omega)⟩
    obtain ⟨q1, hq1⟩ : ∃ q, qs[2 * x + 1]? = some q := ⟨_, List.getElem?_eq_getElem (by rw [HL.out]; omega)⟩
    have HT : Hid (prsI (qs.take (2 * (x + 1))) = prsI (qs.take (2 * x)) ++ [((q0 : Int), (q1 : Int))]) := prsI_take hq0 hq1
    have HLN : Hid ((prsI (qs.take (2 * x))).length = x) := by show _ = _; rw [prsI_len, List.length_take, HL.out]; omega
    have hxm : x ≤ 11 := by omega
    have s0 := U.prs _ _ hq0
    have s1 := U.prs _ _ hq1
    rw [← Nat.add_assoc] at s1
    have c4 := U.chk.cell 4 _ rfl
    generalize prsI (qs.take (2 * x)) = rs at U HT HLN
    have kA := belNew0 W (.cells #[.int .i64 (q0 : Int), .int .i64 (q1 : Int)] 39)
    have U1 := Lib.hid (U.later UB kA)
    have HL1 : Hid (RBuf rfE W.heap.size (W.alloc (.cells #[.int .i64 (q0 : Int), .int .i64 (q1 : Int)] 39)).drew (W.alloc (.cells #[.int .i64 (q0 : Int), .int .i64 (q1 : Int)] 39)).drew (.slice (some ⟨W.heap.size, 0, none⟩) 1 1) [((q0 : Int), (q1 : Int))]) := ((RBuf.lit1 rfE W ((q0 : Int), (q1 : Int))).drew).here
    have sA0 := (kA.cell (p := ⟨gq, oq + 2 * x, none⟩) (World.block_lt_of_cell? _ _ s0)).trans s0
    have sA1 := (kA.cell (p := ⟨gq, oq + 2 * x + 1, none⟩) (World.block_lt_of_cell? _ _ s1)).trans s1
    have HkA := Lib.hid kA
    have HXQ : Hid (∀ Y : World, Y.cell? ⟨gq, oq + 2 * x, none⟩ = some (.int .i64 (q0 : Int)) ∧ Y.cell? ⟨gq, oq + 2 * x + 1, none⟩ = some (.int .i64 (q1 : Int)) ↔ Y.cell? ⟨gq, oq + 2 * x, none⟩ = some (.int .i64 (q0 : Int)) ∧ Y.cell? ⟨gq, oq + (2 * x + 1), none⟩ = some (.int .i64 (q1 : Int))) := fun Y => Iff.rfl
    have HQ0 := Lib.hid hq0
    have HQ1 := Lib.hid hq1
    have HW := Lib.hid hW
    have HHX := Lib.hid hx
    clear U kA hq0 hq1 hW hx
    simp only [List.setIfInBounds_toArray, List.set_cons_zero, List.set_cons_succ]
    gi_wp2
    refine wpIn_round_held (S := fun X => X.cell? ⟨gq, oq + 2 * x, none⟩ = some (.int .i64 (q0 : Int)) ∧ X.cell? ⟨gq, oq + 2 * x + 1, none⟩ = some (.int .i64 (q1 : Int))) (by kernel_rfl) (by kernel_rfl) (fun _ _ h => h) ⟨s0, s1⟩ (fun hHeld => ?_)
    refine takeL (i := 0) (v := .pointer (some ⟨w3.heap.size, 4, none⟩)) rfl (by kernel_rfl) (by kernel_rfl) (by kernel_rfl) (fun _ _ _ h => h) (Or.inl ⟨by rfl, ?_⟩) (by assumption) ?_
    · intro x hSx; go_simp
    try simp only [Act.put, List.setIfInBounds_toArray, List.set_cons_zero, List.set_cons_succ]
    refine takeL (i := 2) (v := .slice (some ⟨gq, oq + 2 * x, none⟩) 2 2) rfl (by kernel_rfl) (by kernel_rfl) (by kernel_rfl) (fun _ _ _ h => h) (Or.inl ⟨by rfl, ?_⟩) (by assumption) ?_
    · intro x hSx; go_simp
    try simp only [Act.put, List.setIfInBounds_toArray, List.set_cons_zero, List.set_cons_succ]
    refine takeL (i := 3) (v := .pointer (some ⟨gq, oq + 2 * x, none⟩)) rfl (by kernel_rfl) (by kernel_rfl) (by kernel_rfl) (fun _ _ _ h => h) (Or.inl ⟨by rfl, ?_⟩) (by assumption) ?_
    · intro x hSx; go_simp
    try simp only [Act.put, List.setIfInBounds_toArray, List.set_cons_zero, List.set_cons_succ]
    refine takeL (i := 4) (v := .int .i64 (q0 : Int)) rfl (by kernel_rfl) (by kernel_rfl) (by kernel_rfl) (fun _ _ _ h => h) (Or.inl ⟨by rfl, ?_⟩) (by assumption) ?_
    · intro x hSx; obtain ⟨d0, d1⟩ := hSx; go_simp
    try simp only [Act.put, List.setIfInBounds_toArray, List.set_cons_zero, List.set_cons_succ]
    refine takeL (i := 5) (v := .slice (some ⟨gq, oq + 2 * x, none⟩) 2 2) rfl (by kernel_rfl) (by kernel_rfl) (by kernel_rfl) (fun _ _ _ h => h) (Or.inl ⟨by rfl, ?_⟩) (by assumption) ?_
    · intro x hSx; go_simp
    try simp only [Act.put, List.setIfInBounds_toArray, List.set_cons_zero, List.set_cons_succ]
    refine takeL (i := 6) (v := .pointer (some ⟨gq, oq + 2 * x + 1, none⟩)) rfl (by kernel_rfl) (by kernel_rfl) (by kernel_rfl) (fun _ _ _ h => h) (Or.inl ⟨by rfl, ?_⟩) (by assumption) ?_
    · intro x hSx; go_simp
    try simp only [Act.put, List.setIfInBounds_toArray, List.set_cons_zero, List.set_cons_succ]
    refine takeL (i := 7) (v := .int .i64 (q1 : Int)) rfl (by kernel_rfl) (by kernel_rfl) (by kernel_rfl) (fun _ _ _ h => h) (Or.inl ⟨by rfl, ?_⟩) (by assumption) ?_
    · intro x hSx; obtain ⟨d0, d1⟩ := hSx; go_simp
    try simp only [Act.put, List.setIfInBounds_toArray, List.set_cons_zero, List.set_cons_succ]
    refine takeL (i := 8) (v := .agg #[.int .i64 (q0 : Int), .int .i64 (q1 : Int)]) rfl (by kernel_rfl) (by kernel_rfl) (by kernel_rfl) (fun _ _ _ h => h) (Or.inl ⟨by rfl, ?_⟩) (by assumption) ?_
    · intro x hSx; go_simp
    try simp only [Act.put, List.setIfInBounds_toArray, List.set_cons_zero, List.set_cons_succ]
    refine wpAnyH_ready (rs := [1, 9]) (by kernel_rfl) (by simp) ?_
    refine readyTwo rfl rfl (fun K' hK => ?_) (fun K' hK => ?_)
    · go_simp
      refine hK.out _ _ ⟨s0, s1⟩ (fun hS2 => ?_)
      clear hK K' hHeld
      have hHeld := hS2
      clear hS2
      try simp only [Act.put, List.setIfInBounds_toArray, List.set_cons_zero, List.set_cons_succ]
      refine wpAnyH_ready (rs := [9]) (by kernel_rfl) (by simp) ?_
      refine readyOne rfl (fun K' hK => ?_)
      go_simp
      refine hK.out _ _ ⟨sA0, sA1⟩ (fun hS2 => ?_)
      clear hK K' hHeld
      have hHeld := hS2
      clear hS2
      try simp only [Act.put, List.setIfInBounds_toArray, List.set_cons_zero, List.set_cons_succ]
      generalize (W.alloc (.cells #[.int .i64 (q0 : Int), .int .i64 (q1 : Int)] 39)).drew = XA at hHeld U1 HL1 HkA ⊢
      have hE := Nat.le_trans HW.out HkA.out.size
      refine wpAnyH_ready (rs := [10]) (by kernel_rfl) (by simp) ?_
      refine readyOne rfl (fun K' hK => ?_)
      refine step_append_rows rfl (.tmp 60) (.tmp 68) rfE rfl (W5.heap.size + 2) _ rs rfl (U1.out.refs hE) W.heap.size _ [((q0 : Int), (q1 : Int))] rfl HL1.out (by show _ * 17 ≤ _; simp only [List.length_cons, List.length_nil]; have := HLN.out; omega) ?_
      intro v8 w8 r8 g8 _ _
      obtain ⟨a8, c8, e8⟩ := r8.form
      simp only [List.length_append, List.length_cons, List.length_nil, Nat.zero_add] at e8
      rw [HLN.out] at e8
      subst e8
      obtain ⟨d4, f4, dq⟩ := U1.out.cells UB g8
      have t0 := dq _ _ HQ0.out
      have t1 := dq _ _ HQ1.out
      rw [← Nat.add_assoc] at t1
      refine hK.out _ _ ⟨t0, t1⟩ (fun hS2 => ?_)
      clear hK K' hHeld
      have hHeld := hS2
      clear hS2
      try simp only [Act.put, List.setIfInBounds_toArray, List.set_cons_zero, List.set_cons_succ]
      refine takeL (i := 11) (v := .pointer (some ⟨w3.heap.size, 4, none⟩)) rfl (by kernel_rfl) (by kernel_rfl) (by kernel_rfl) (fun _ _ _ h => h) (Or.inl ⟨by rfl, ?_⟩) (by assumption) ?_
      · intro x hSx; go_simp
      try simp only [Act.put, List.setIfInBounds_toArray, List.set_cons_zero, List.set_cons_succ]
      refine wpAnyH_ready (rs := [12]) (by kernel_rfl) (by simp) ?_
      refine readyOne rfl (fun K' hK => ?_)
      obtain ⟨UF, z1, z2, z3⟩ := U1.out.push UB hE a8 (x + 1) c8 r8 g8
      have HF := Lib.hid UF
      clear UF
      go_simp
      have v0 := HF.out.prs _ _ HQ0.out
      have v1 := HF.out.prs _ _ HQ1.out
      rw [← Nat.add_assoc] at v1
      refine hK.out _ _ ⟨v0, v1⟩ (fun hS2 => ?_)
      clear hK K' hHeld
      refine wpAnyH_done (by kernel_rfl) ?_ _
      exact ⟨⟨a8, c8, by rw [List.length_append, List.length_range, List.length_singleton, HT.out]; exact HF.out⟩, Nat.le_trans HkA.out.size z1, z2.trans (HkA.out.block _ (by have := HW.out; omega)), z3.trans (HkA.out.block _ (by have := HW.out; omega))⟩
    · go_simp
      refine hK.out _ _ ⟨sA0, sA1⟩ (fun hS2 => ?_)
      clear hK K' hHeld
      have hHeld := hS2
      clear hS2
      try simp only [Act.put, List.setIfInBounds_toArray, List.set_cons_zero, List.set_cons_succ]
      refine wpAnyH_ready (rs := [1]) (by kernel_rfl) (by simp) ?_
      refine readyOne rfl (fun K' hK => ?_)
      have c4' := U1.out.chk.cell 4 _ rfl
      go_simp
      refine hK.out _ _ ⟨sA0, sA1⟩ (fun hS2 => ?_)
      clear hK K' hHeld
      have hHeld := hS2
      clear hS2
      try simp only [Act.put, List.setIfInBounds_toArray, List.set_cons_zero, List.set_cons_succ]
      generalize (W.alloc (.cells #[.int .i64 (q0 : Int), .int .i64 (q1 : Int)] 39)).drew = XA at hHeld U1 HL1 HkA ⊢
      have hE := Nat.le_trans HW.out HkA.out.size
      refine wpAnyH_ready (rs := [10]) (by kernel_rfl) (by simp) ?_
      refine readyOne rfl (fun K' hK => ?_)
      refine step_append_rows rfl (.tmp 60) (.tmp 68) rfE rfl (W5.heap.size + 2) _ rs rfl (U1.out.refs hE) W.heap.size _ [((q0 : Int), (q1 : Int))] rfl HL1.out (by show _ * 17 ≤ _; simp only [List.length_cons, List.length_nil]; have := HLN.out; omega) ?_
      intro v8 w8 r8 g8 _ _
      obtain ⟨a8, c8, e8⟩ := r8.form
      simp only [List.length_append, List.length_cons, List.length_nil, Nat.zero_add] at e8
      rw [HLN.out] at e8
      subst e8
      obtain ⟨d4, f4, dq⟩ := U1.out.cells UB g8
      have t0 := dq _ _ HQ0.out
      have t1 := dq _ _ HQ1.out
      rw [← Nat.add_assoc] at t1
      refine hK.out _ _ ⟨t0, t1⟩ (fun hS2 => ?_)
      clear hK K' hHeld
      have hHeld := hS2
      clear hS2
      try simp only [Act.put, List.setIfInBounds_toArray, List.set_cons_zero, List.set_cons_succ]
      refine takeL (i := 11) (v := .pointer (some ⟨w3.heap.size, 4, none⟩)) rfl (by kernel_rfl) (by kernel_rfl) (by kernel_rfl) (fun _ _ _ h => h) (Or.inl ⟨by rfl, ?_⟩) (by assumption) ?_
      · intro x hSx; go_simp
      try simp only [Act.put, List.setIfInBounds_toArray, List.set_cons_zero, List.set_cons_succ]
      refine wpAnyH_ready (rs := [12]) (by kernel_rfl) (by simp) ?_
      refine readyOne rfl (fun K' hK => ?_)
      obtain ⟨UF, z1, z2, z3⟩ := U1.out.push UB hE a8 (x + 1) c8 r8 g8
      have HF := Lib.hid UF
      clear UF
      go_simp
      have v0 := HF.out.prs _ _ HQ0.out
      have v1 := HF.out.prs _ _ HQ1.out
      rw [← Nat.add_assoc] at v1
      refine hK.out _ _ ⟨v0, v1⟩ (fun hS2 => ?_)
      clear hK K' hHeld
      refine wpAnyH_done (by kernel_rfl) ?_ _
      exact ⟨⟨a8, c8, by rw [List.length_append, List.length_range, List.length_singleton, HT.out]; exact HF.out⟩, Nat.le_trans HkA.out.size z1, z2.trans (HkA.out.block _ (by have := HW.out; omega)), z3.trans (HkA.out.block _ (by have := HW.out; omega))⟩
  case done =>
    rintro D xs W rfl rfl ⟨a, c, U⟩ hK
    rw [List.length_range] at U
    have hqe : prsI (qs.take (2 * m)) = prsI qs := by rw [← HL.out, List.take_length]
    rw [hqe] at U
    have hlen : (prsI qs).length = m := by rw [prsI_len, HL.out]; omega
    have HLEN := Lib.hid hlen
    have HU := Lib.hid U
    obtain ⟨x0, x1, x2, x3, x4, _⟩ := U.chk.fiveC
    obtain ⟨y0, y1, y2, y3, y4, f0, f1, f2, f3, f4⟩ := U.res.fiveC
    have R5 := ((((U.res.set 0 (.int .i64 (st : Int))).set 1 (.int .i64 (ng : Int))).set 2 (.int .i64 (ns : Int))).set 3 (.int .i64 (nv : Int))).set 4 (.slice a m c)
    have HR5 := Lib.hid R5
    have HKD := Lib.hid hK
    clear U R5 hK hqe hlen
    go_wp2
    have GK : (((((W.setCell ⟨w.heap.size, 0, none⟩ (.int .i64 (st : Int))).setCell ⟨w.heap.size, 1, none⟩ (.int .i64 (ng : Int))).setCell ⟨w.heap.size, 2, none⟩ (.int .i64 (ns : Int))).setCell ⟨w.heap.size, 3, none⟩ (.int .i64 (nv : Int))).setCell ⟨w.heap.size, 4, none⟩ (.slice a m c)).heap[W5.heap.size]? = some (.deferred (some [])) := (KeepsOthers.setCell _ _ _).same W5.heap.size _ ((KeepsOthers.setCell _ _ _).same W5.heap.size _ ((KeepsOthers.setCell _ _ _).same W5.heap.size _ ((KeepsOthers.setCell _ _ _).same W5.heap.size _ ((KeepsOthers.setCell _ _ _).same W5.heap.size _ (HKD.out) rfl) rfl) rfl) rfl) rfl
    have hnw := HU.out.away (k := w.heap.size) (by have := UB.lt; omega)
    have hnD := HU.out.away (k := W5.heap.size) (by omega)
    have hle : ∀ k, some w.heap.size = some k → w.heap.size ≤ k := fun k e => by cases e; exact Nat.le_refl _
    have F5 := (((((HU.out.fin UB).grown (stored_grown _ w.heap.size 0 (.int .i64 (st : Int))) hnw hle).grown (stored_grown _ w.heap.size 1 (.int .i64 (ng : Int))) hnw hle).grown (stored_grown _ w.heap.size 2 (.int .i64 (ns : Int))) hnw hle).grown (stored_grown _ w.heap.size 3 (.int .i64 (nv : Int))) hnw hle).grown (stored_grown _ w.heap.size 4 (.slice a m c)) hnw hle
    have F6 := Lib.hid (F5.grown (grownBy_putObj' _ W5.heap.size (.deferred none)) hnD (fun k e => by cases e; exact UB.low.2.2))
    have R6 := HR5.out.butU (grownBy_putObj' _ W5.heap.size (.deferred none)) (fun k e => by cases e; have := UB.lt; omega)
    obtain ⟨u0, u1, u2, u3, u4, _⟩ := R6.fiveC
    refine ⟨by simp, .inl ⟨_, _, rfl, run_takeDeferred GK, ?_⟩⟩
    refine ⟨.tuple #[.agg #[.int .i64 (st : Int), .int .i64 (ng : Int), .int .i64 (ns : Int), .int .i64 (nv : Int), .slice a m c], .nilIface], ?_, a, c, by rw [HLEN.out], by rw [HLEN.out]; exact F6.out⟩
    simp [results, Tryd.f25, go_sem, u0, u1, u2, u3, u4]

end Go.Proofs.YtlnpegknjhbdnaaDoor
