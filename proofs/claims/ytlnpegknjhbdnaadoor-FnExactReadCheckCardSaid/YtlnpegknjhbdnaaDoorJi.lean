/- Texts of our own, joined. -/
import Derived.Test.YtlnpegknjhbdnaaDoorJe
import Derived.Test.YtlnpegknjhbdnaaDoorJh
import Derived.Test.YtlnpegknjhbdnaaDoorJc
import Derived.ProofKit
import Derived.LaidMore
import Derived.Test.YtlnpegknjhbdnaaDoorRows
import Derived.LaidLaws
import Derived.LaidHandle
/- ReadCheck of the model. -/
namespace Go.Proofs.YtlnpegknjhbdnaaDoor
open Go.RowKit

/-- What ReadCheck hands back. -/
def RkR (t : ByteArray) (w : World) (e : Ending) (w' : World) : Prop := ∃ (a : Option Addr) (cap : Nat), e = .returned (.tuple #[.agg #[.int .i64 (rkC t).st, .int .i64 (rkC t).ng, .int .i64 (rkC t).ns, .int .i64 (rkC t).nv, .slice a (rkC t).refs.length cap], .bool (rkB t)]) ∧ RBuf rfE w.heap.size w w' (.slice a (rkC t).refs.length cap) (rkC t).refs
theorem rkR_no {t : ByteArray} {w w' : World} (h : rkO t = none) (hb : Below w.heap.size w w') : RkR t w (.returned (.tuple #[.agg #[.int .i64 0, .int .i64 0, .int .i64 0, .int .i64 0, .slice none 0 0], .bool false])) w' := by
  unfold RkR rkC rkB
  rw [h]
  exact ⟨none, 0, rfl, World.ownsRow_nil _ _ _ _, hb, hb.size⟩
theorem rkR_yes {t : ByteArray} {w w' : World} {c : Ck} {a : Option Addr} {cap : Nat} (h : rkO t = some c) (hb : RBuf rfE w.heap.size w w' (.slice a c.refs.length cap) c.refs) : RkR t w (.returned (.tuple #[.agg #[.int .i64 c.st, .int .i64 c.ng, .int .i64 c.ns, .int .i64 c.nv, .slice a c.refs.length cap], .bool true])) w' := by
  unfold RkR rkC rkB
  rw [h]
  exact ⟨a, cap, rfl, hb⟩
theorem head_run {t : ByteArray} {q : Nat} (h : q ≤ t.size) (wx : World) : (Instr.slice 9 (.string t) none (some (.int .i64 (q : Int))) none).run Tryd.prog wx = .ok (.string (t.extract 0 q)) wx := by
  rw [run_slice_string_h (P := Tryd.prog) (w := wx) (t := 9) (s := t) Tryd.underlying9 .i64 (q : Int) (by omega) (by omega), Int.toNat_natCast]

theorem RBuf.hereU {α : Type} {E : Enc α} {B : Nat} {w0 w w' : World} {v : Value} {l : List α} (h : RBuf E B w0 w v l) (hb : Below w.heap.size w w') : RBuf E B w' w' v l := (h.later hb).here

/-- While the numbers are read. -/
structure SpJ (w0 : World) (gR gU gX : Nat) (y : ByteArray) (x : World) (p : Nat) (b : Bool) (cs : Array Value) : Prop where
  cur : CuB x gU y p b
  res : Box x gR #[.int .i64 0, .int .i64 0, .int .i64 0, .int .i64 0, .slice none 0 0] 24
  chk : Box x gX cs 24
  bel : Below w0.heap.size w0 x
variable {w0 x x' : World} {gR gU gX : Nat} {y : ByteArray} {p q : Nat} {b d : Bool} {cs : Array Value}
theorem SpJ.read (h : SpJ w0 gR gU gX y x p b cs) (hB : w0.heap.size ≤ gR ∧ gR < gU ∧ gU < gX) (g : x.grownBy x' (some gU)) (u : CuB x' gU y q d) : SpJ w0 gR gU gX y x' q d cs :=
  ⟨u, h.res.butU g (fun k e => by cases e; omega), h.chk.butU g (fun k e => by cases e; omega), h.bel.grown g h.bel.size (fun k e => by cases e; omega)⟩
theorem SpJ.later (h : SpJ w0 gR gU gX y x p b cs) (hb : Below x.heap.size x x') : SpJ w0 gR gU gX y x' p b cs :=
  ⟨Box.later h.cur hb, h.res.later hb, h.chk.later hb, h.bel.trans (hb.mono h.bel.size)⟩
theorem SpJ.put (h : SpJ w0 gR gU gX y x p b cs) (hB : w0.heap.size ≤ gR ∧ gR < gU ∧ gU < gX) (i : Nat) (v : Value) : SpJ w0 gR gU gX y (x.setCell ⟨gX, i, none⟩ v) p b (cs.setIfInBounds i v) :=
  ⟨Box.other h.cur (by omega) _ _, h.res.other (by omega) _ _, h.chk.set i v, h.bel.setCell (p := ⟨gX, i, none⟩) (by show _ ≤ gX; omega) v⟩
theorem SpJ.grow {r : Option Nat} {B : Nat} (h : SpJ w0 gR gU gX y x p b cs) (hB : w0.heap.size ≤ gR ∧ gR < gU ∧ gU < gX) (hX : gX < B) (g : x.grownBy x' r) (hr : ∀ k, r = some k → B ≤ k) : SpJ w0 gR gU gX y x' p b cs :=
  ⟨Box.butU h.cur g (fun k e => by have := hr k e; omega), h.res.butU g (fun k e => by have := hr k e; omega), h.chk.butU g (fun k e => by have := hr k e; omega), h.bel.grown g h.bel.size (fun k e => by have := hr k e; omega)⟩
theorem cs_two {y : ByteArray} {i p m1 q1 m2 q2 : Nat} {b d1 d2 : Bool} {ns : List Nat} (h : csN y (5 + 2 * i) = (ns, p, b)) (h1 : cuV y p b = (m1, q1, d1)) (h2 : cuV y q1 d1 = (m2, q2, d2)) : csN y (5 + 2 * (i + 1)) = (ns ++ [m1] ++ [m2], q2, d2) ∧ prsI ((ns ++ [m1] ++ [m2]).drop 5) = prsI (ns.drop 5) ++ [((m1 : Int), (m2 : Int))] := by
  have hl : ns.length = 5 + 2 * i := by have := csN_len y (5 + 2 * i); rw [h] at this; exact this
  constructor
  · have e1 := csN_step h
    rw [h1] at e1
    have e2 := csN_step e1
    rw [h2] at e2
    exact e2
  · rw [List.append_assoc, List.drop_append_of_le_length (by omega)]
    exact prsI_two _ m1 m2 (by rw [List.length_drop]; omega)
theorem ct_form (c : Ck) : ∃ (tx : ByteArray) (gd : Bool), ctT c = .tuple #[.string tx, .bool gd] ∧ (gd = true → c.ok ∧ tx = ckTx c) ∧ (c.ok → gd = true ∧ tx = ckTx c) := by
  by_cases h : c.ok
  · exact ⟨_, _, ctT_yes (ckB_yes h), fun _ => ⟨h, rfl⟩, fun _ => ⟨rfl, rfl⟩⟩
  · exact ⟨_, _, ctT_no (ckB_no h), fun e => (by cases e), fun e => absurd e h⟩

set_option maxRecDepth 100000 in
set_option maxHeartbeats 2000000 in
theorem specRC_no (t : ByteArray) (w : World) (hs : t.size ≤ 1099511627776) {x y : ByteArray} {q : Nat} {o f : Bool} (hr : rsT t 0 = .tuple #[.string x, .int .i64 (q : Int), .bool o]) (hx : x.size ≤ t.size) (hu : unT x = .tuple #[.string y, .bool f]) (h : o = false ∨ f = false) :
    Calls Tryd.prog 4 #[.string t] w fun e w' => RkR t w e w' := by
  have HN := Lib.hid (ahead_none hr hu h)
  have HRS := Lib.hid hr
  have HUN := Lib.hid hu
  have X0 := Box.new w #[.int .i64 0, .int .i64 0, .int .i64 0, .int .i64 0, .slice none 0 0] 24
  have b0 := belNew w (.cells #[.int .i64 0, .int .i64 0, .int .i64 0, .int .i64 0, .slice none 0 0] 24)
  have hof : (!o || !f) = true := by rcases h with h | h <;> rw [h] <;> simp
  clear hr hu
  go_enter Tryd.func4, Tryd.ntmps4
  go_wp2_with fail
  generalize w.alloc (.cells #[.int .i64 0, .int .i64 0, .int .i64 0, .int .i64 0, .slice none 0 0] 24) = w0 at X0 b0 ⊢
  refine (specReadShort_any t 0 _ hs).mono ?_
  rintro e w1 ⟨rfl, k1⟩
  rw [HRS.out]
  go_wp2_with fail
  refine (specUnsealed_any x _ (by omega)).mono ?_
  rintro e w2 ⟨rfl, k2⟩
  rw [HUN.out]
  have Y0 := (X0.later k1).later k2
  have b1 := b0.trans (k1.mono b0.size)
  have b2 := b1.trans (k2.mono b1.size)
  obtain ⟨y0, y1, y2, y3, y4, f0, f1, f2, f3, f4⟩ := Y0.fiveC
  have R5 := (((((Y0.set 0 (.int .i64 0)).set 1 (.int .i64 0)).set 2 (.int .i64 0)).set 3 (.int .i64 0)).set 4 (.slice none 0 0))
  obtain ⟨u0, u1, u2, u3, u4, _⟩ := R5.fiveC
  have B5 := Lib.hid (((((b2.setCell (p := ⟨w.heap.size, 0, none⟩) (Nat.le_refl _) (.int .i64 0)).setCell (p := ⟨w.heap.size, 1, none⟩) (Nat.le_refl _) (.int .i64 0)).setCell (p := ⟨w.heap.size, 2, none⟩) (Nat.le_refl _) (.int .i64 0)).setCell (p := ⟨w.heap.size, 3, none⟩) (Nat.le_refl _) (.int .i64 0)).setCell (p := ⟨w.heap.size, 4, none⟩) (Nat.le_refl _) (.slice none 0 0))
  clear X0 b0 b1 b2 k1 k2 Y0 R5
  rcases o with _ | _ <;> rcases f with _ | _
  rotate_left 3
  · rcases h with h | h <;> cases h
  all_goals
    go_wp2_with fail
    refine bodyPost_ret (v := .tuple #[.agg #[.int .i64 0, .int .i64 0, .int .i64 0, .int .i64 0, .slice none 0 0], .bool false]) (by simp [results, Tryd.results4, go_sem, u0, u1, u2, u3, u4]) rfl ?_
    exact rkR_no HN.out B5.out

set_option maxRecDepth 100000 in
set_option maxHeartbeats 8000000 in
theorem specRC_go (t : ByteArray) (w : World) (hs : t.size ≤ 1099511627776) {x y : ByteArray} {q : Nat} (hr : rsT t 0 = .tuple #[.string x, .int .i64 (q : Int), .bool true]) (hx : x.size ≤ t.size) (hq : q ≤ t.size) (hu : unT x = .tuple #[.string y, .bool true]) (hy : y.size ≤ x.size) :
    Calls Tryd.prog 4 #[.string t] w fun e w' => RkR t w e w' := by
  have HRS := Lib.hid hr
  have HUN := Lib.hid hu
  have X0 := Box.new w #[.int .i64 0, .int .i64 0, .int .i64 0, .int .i64 0, .slice none 0 0] 24
  have b0 := belNew w (.cells #[.int .i64 0, .int .i64 0, .int .i64 0, .int .i64 0, .slice none 0 0] 24)
  have hyt : y.size ≤ 1099511627776 := by omega
  obtain ⟨n1, p1, b1, h1⟩ : ∃ n p b, cuV y 0 false = (n, p, b) := ⟨_, _, _, rfl⟩
  have l1 : p1 ≤ y.size := by have := (cuV_le y 0 false (Nat.zero_le _)).1; rwa [h1] at this
  obtain ⟨n2, p2, b2, h2⟩ : ∃ n p b, cuV y p1 b1 = (n, p, b) := ⟨_, _, _, rfl⟩
  have l2 : p2 ≤ y.size := by have := (cuV_le y p1 b1 l1).1; rwa [h2] at this
  obtain ⟨n3, p3, b3, h3⟩ : ∃ n p b, cuV y p2 b2 = (n, p, b) := ⟨_, _, _, rfl⟩
  have l3 : p3 ≤ y.size := by have := (cuV_le y p2 b2 l2).1; rwa [h3] at this
  obtain ⟨n4, p4, b4, h4⟩ : ∃ n p b, cuV y p3 b3 = (n, p, b) := ⟨_, _, _, rfl⟩
  have l4 : p4 ≤ y.size := by have := (cuV_le y p3 b3 l3).1; rwa [h4] at this
  obtain ⟨n5, p5, b5, h5⟩ : ∃ n p b, cuV y p4 b4 = (n, p, b) := ⟨_, _, _, rfl⟩
  have l5 : p5 ≤ y.size := by have := (cuV_le y p4 b4 l4).1; rwa [h5] at this
  have hn5 : n5 ≤ 1000000000 := by have := (cuV_le y p4 b4 l4).2; rwa [h5] at this
  have c1 : csN y 1 = ([n1], p1, b1) := by have := csN_step (t := y) (k := 0) rfl; rw [h1] at this; exact this
  have c2 : csN y 2 = ([n1, n2], p2, b2) := by have := csN_step c1; rw [h2] at this; exact this
  have c3 : csN y 3 = ([n1, n2, n3], p3, b3) := by have := csN_step c2; rw [h3] at this; exact this
  have c4 : csN y 4 = ([n1, n2, n3, n4], p4, b4) := by have := csN_step c3; rw [h4] at this; exact this
  have c5 : csN y 5 = ([n1, n2, n3, n4, n5], p5, b5) := by have := csN_step c4; rw [h5] at this; exact this
  have HC5 := Lib.hid c5
  have HEX : Hid (∀ (i p : Nat) (b : Bool) (ns : List Nat), csN y (5 + 2 * i) = (ns, p, b) → ¬ (i < n5 ∧ i < 20 ∧ b = false) → i ≤ n5 → ∀ c, Hit t c → b = false ∧ c = ⟨(n1 : Int), (n2 : Int), (n3 : Int), (n4 : Int), prsI (ns.drop 5)⟩ ∧ ckTx c = t.extract 0 q) := fun i p b ns h1 h2 h3 c hc => exit_hit hr hu c5 h1 h2 h3 hc
  clear hr hu c1 c2 c3 c4 c5
  go_enter Tryd.func4, Tryd.ntmps4
  go_wp2_with fail
  generalize w.alloc (.cells #[.int .i64 0, .int .i64 0, .int .i64 0, .int .i64 0, .slice none 0 0] 24) = w0 at X0 b0 ⊢
  refine (specReadShort_any t 0 _ hs).mono ?_
  rintro e w1 ⟨rfl, k1⟩
  rw [HRS.out]
  go_wp2_with fail
  refine (specUnsealed_any x _ (by omega)).mono ?_
  rintro e w2 ⟨rfl, k2⟩
  rw [HUN.out]
  have XU := Box.new w2 #[.string y, .int .i64 0, .bool false] 36
  have k3 := belNew w2 (.cells #[.string y, .int .i64 0, .bool false] 36)
  have Y0 := ((X0.later k1).later k2).later k3
  have e1 := b0.trans (k1.mono b0.size)
  have e2 := e1.trans (k2.mono e1.size)
  have e3 := e2.trans (k3.mono e2.size)
  have g1 : w.heap.size < w2.heap.size := by have := X0.lt; have := k1.size; have := k2.size; omega
  clear X0 b0 e1 e2 k1 k2 k3
  go_wp2_with fail
  generalize w2.alloc (.cells #[.string y, .int .i64 0, .bool false] 36) = w3 at XU Y0 e3 ⊢
  obtain ⟨gU, hgU⟩ : ∃ g, w2.heap.size = g := ⟨_, rfl⟩
  rw [hgU] at XU g1 ⊢
  have lU := XU.lt
  clear hgU
  refine (l06Var_at h1 XU (Nat.zero_le _) hyt).mono ?_
  rintro e w4 ⟨rfl, U1, j1⟩
  have Y4 := Y0.butU j1 (fun k e => by cases e; omega)
  have e4 := e3.grown j1 e3.size (fun k e => by cases e; omega)
  have XX := Box.new w4 #[.int .i64 (n1 : Int), .int .i64 0, .int .i64 0, .int .i64 0, .slice none 0 0] 24
  have k5 := belNew w4 (.cells #[.int .i64 (n1 : Int), .int .i64 0, .int .i64 0, .int .i64 0, .slice none 0 0] 24)
  have J1 : SpJ w w.heap.size gU w4.heap.size y (w4.alloc (.cells #[.int .i64 (n1 : Int), .int .i64 0, .int .i64 0, .int .i64 0, .slice none 0 0] 24)) p1 b1 #[.int .i64 (n1 : Int), .int .i64 0, .int .i64 0, .int .i64 0, .slice none 0 0] := ⟨Box.later U1 k5, Y4.later k5, XX, e4.trans (k5.mono e4.size)⟩
  have g2 : gU < w4.heap.size := by have := j1.size; omega
  clear XU Y0 e3 U1 j1 Y4 e4 XX k5 lU
  go_wp2_with fail
  generalize w4.alloc (.cells #[.int .i64 (n1 : Int), .int .i64 0, .int .i64 0, .int .i64 0, .slice none 0 0] 24) = w5 at J1 ⊢
  obtain ⟨gX, hgX⟩ : ∃ g, w4.heap.size = g := ⟨_, rfl⟩
  rw [hgX] at J1 g2 ⊢
  clear hgX
  have HB : w.heap.size ≤ w.heap.size ∧ w.heap.size < gU ∧ gU < gX := ⟨Nat.le_refl _, g1, g2⟩
  refine (l06Var_at h2 J1.cur l1 hyt).mono ?_
  rintro e v2 ⟨rfl, U, j⟩
  have R2 := J1.read HB j U
  have d2 := R2.chk.cell 1 _ rfl
  have f2 := R2.chk.loose 1
  have J2 : SpJ w w.heap.size gU gX y (v2.setCell ⟨gX, 1, none⟩ (.int .i64 (n2 : Int))) p2 b2 #[.int .i64 (n1 : Int), .int .i64 (n2 : Int), .int .i64 0, .int .i64 0, .slice none 0 0] := R2.put HB 1 (.int .i64 (n2 : Int))
  clear J1 U j R2
  go_wp2_with fail
  generalize v2.setCell ⟨gX, 1, none⟩ (.int .i64 (n2 : Int)) = z2 at J2 ⊢
  clear d2 f2
  refine (l06Var_at h3 J2.cur l2 hyt).mono ?_
  rintro e v3 ⟨rfl, U, j⟩
  have R3 := J2.read HB j U
  have d3 := R3.chk.cell 2 _ rfl
  have f3 := R3.chk.loose 2
  have J3 : SpJ w w.heap.size gU gX y (v3.setCell ⟨gX, 2, none⟩ (.int .i64 (n3 : Int))) p3 b3 #[.int .i64 (n1 : Int), .int .i64 (n2 : Int), .int .i64 (n3 : Int), .int .i64 0, .slice none 0 0] := R3.put HB 2 (.int .i64 (n3 : Int))
  clear J2 U j R3
  go_wp2_with fail
  generalize v3.setCell ⟨gX, 2, none⟩ (.int .i64 (n3 : Int)) = z3 at J3 ⊢
  clear d3 f3
  refine (l06Var_at h4 J3.cur l3 hyt).mono ?_
  rintro e v4 ⟨rfl, U, j⟩
  have R4 := J3.read HB j U
  have d4 := R4.chk.cell 3 _ rfl
  have f4 := R4.chk.loose 3
  have J4 : SpJ w w.heap.size gU gX y (v4.setCell ⟨gX, 3, none⟩ (.int .i64 (n4 : Int))) p4 b4 #[.int .i64 (n1 : Int), .int .i64 (n2 : Int), .int .i64 (n3 : Int), .int .i64 (n4 : Int), .slice none 0 0] := R4.put HB 3 (.int .i64 (n4 : Int))
  clear J3 U j R4
  go_wp2_with fail
  generalize v4.setCell ⟨gX, 3, none⟩ (.int .i64 (n4 : Int)) = z4 at J4 ⊢
  clear d4 f4
  refine (l06Var_at h5 J4.cur l4 hyt).mono ?_
  rintro e v5 ⟨rfl, U, j⟩
  have J5 := J4.read HB j U
  clear J4 U j
  have HJ5 := Lib.hid J5
  have HX5 := Lib.hid J5.chk.lt
  clear J5
  obtain ⟨B, hBB⟩ : ∃ B, v5.heap.size = B := ⟨_, rfl⟩
  have HN5 : Hid (RBuf rfE B v5 v5 (.slice none 0 0) []) := by rw [← hBB]; exact RBuf.nil rfE v5
  rw [hBB] at HX5
  have HL5 := Lib.hid l5
  clear hBB h1 h2 h3 h4 h5 l1 l2 l3 l4 l5
  go_wp2_with fail
  go_loopw [12] (fun iv wr => ∃ (i p : Nat) (b : Bool) (a : Option Addr) (c : Nat) (ns : List Nat), iv = .int .i64 (i : Int) ∧ i ≤ n5 ∧ i ≤ 20 ∧ Hid (csN y (5 + 2 * i) = (ns, p, b)) ∧ SpJ w w.heap.size gU gX y wr p b #[.int .i64 (n1 : Int), .int .i64 (n2 : Int), .int .i64 (n3 : Int), .int .i64 (n4 : Int), .slice a i c] ∧ RBuf rfE B wr wr (.slice a i c) (prsI (ns.drop 5))) (fun iv _ => 20 - (intOf iv).toNat)
  case atStart => exact ⟨0, p5, b5, none, 0, _, rfl, by omega, by omega, HC5, HJ5.out, HN5.out⟩
  case round =>
    clear HJ5 HN5
    obtain ⟨i, p, b, a, c, ns, rfl, hi, hi20, HCS, J, I⟩ := hrel
    have hp : p ≤ y.size := by have := csN_le y (5 + 2 * i); rw [HCS.out] at this; exact this
    by_cases hgo : i < n5 ∧ i < 20 ∧ b = false
    · obtain ⟨g5, g20, rfl⟩ := hgo
      obtain ⟨m1, q1, d1, hm1⟩ : ∃ n' p' b', cuV y p false = (n', p', b') := ⟨_, _, _, rfl⟩
      have lq1 : q1 ≤ y.size := by have := (cuV_le y p false hp).1; rwa [hm1] at this
      obtain ⟨m2, q2, d2, hm2⟩ : ∃ n p b, cuV y q1 d1 = (n, p, b) := ⟨_, _, _, rfl⟩
      have HCT := Lib.hid (cs_two HCS.out hm1 hm2)
      have HLN : Hid ((prsI (ns.drop 5)).length = i) := by show _ = _; rw [prsI_len, List.length_drop]; have := csN_len y (5 + 2 * i); rw [HCS.out] at this; simp only at this; omega
      generalize prsI (ns.drop 5) = rs at I HCT HLN
      have ub := J.cur.cell 2 _ rfl
      have i1 : (i : Int) < (n5 : Int) := by omega
      have i2 : (i : Int) < 20 := by omega
      have HHM2 := Lib.hid hm2
      clear HCS HEX hm2
      go_wp2_with fail
      refine (l06Var_at hm1 J.cur hp hyt).mono ?_
      rintro e v1 ⟨rfl, U, j⟩
      have J1 := J.read HB j U
      have hnU : (Value.slice a i c).ownBlock = none ∨ (Value.slice a i c).ownBlock ≠ some gU := .inr fun e => by have := (I.own.lt _ e).1; have := HX5.out; omega
      have I1 := I.shift j hnU
      have XR := Box.new v1 #[.int .i64 (m1 : Int), .int .i64 0] 39
      have kR := belNew v1 (.cells #[.int .i64 (m1 : Int), .int .i64 0] 39)
      have J2 := J1.later kR
      have I2 := I1.hereU kR
      have hrB := I1.le
      have hnR : (Value.slice a i c).ownBlock = none ∨ (Value.slice a i c).ownBlock ≠ some v1.heap.size := .inr fun e => by have := (I1.own.lt _ e).2; omega
      clear J J1 I I1 kR U j ub hm1
      go_wp2_with fail
      generalize v1.alloc (.cells #[.int .i64 (m1 : Int), .int .i64 0] 39) = v2 at XR J2 I2 ⊢
      obtain ⟨gF, hgF⟩ : ∃ g, v1.heap.size = g := ⟨_, rfl⟩
      rw [hgF] at XR hrB hnR ⊢
      clear hgF
      refine (l06Var_at HHM2.out J2.cur lq1 hyt).mono ?_
      rintro e v3 ⟨rfl, U, j⟩
      have J3 := J2.read HB j U
      have I3 := I2.shift j hnU
      have X3 := XR.butU j (fun k e => by cases e; have := HX5.out; omega)
      have r1 := X3.cell 1 _ rfl
      have fr1 := X3.loose 1
      have sg := stored_grown v3 gF 1 (.int .i64 (m2 : Int))
      have J4 := J3.grow HB HX5.out sg (fun k e => by cases e; exact hrB)
      have I4 := I3.shift sg hnR
      have X4 : Box (v3.setCell ⟨gF, 1, none⟩ (.int .i64 (m2 : Int))) gF #[.int .i64 (m1 : Int), .int .i64 (m2 : Int)] 39 := X3.set 1 _
      clear J2 I2 XR U j J3 I3 X3 sg hnU
      go_upto_region 16 with fail
      generalize v3.setCell ⟨gF, 1, none⟩ (.int .i64 (m2 : Int)) = v4 at J4 I4 X4 ⊢
      clear r1 fr1
      have r0 := X4.cell 0 _ rfl
      have r1 := X4.cell 1 _ rfl
      have x4 := J4.chk.cell 4 _ rfl
      have kL := belNew v4 (.cells #[.int .i64 (m1 : Int), .int .i64 (m2 : Int)] 39)
      have J5 := Lib.hid (J4.later kL)
      have I5 := Lib.hid (I4.hereU kL)
      have HL := Lib.hid (RBuf.lit1 rfE v4 ((m1 : Int), (m2 : Int)))
      clear J4 I4 kL X4 hnR
      go_wp2_with (at_builtin; refine wpList_append_rows rfl _ _ rfE rfl B _ rs rfl I5.out v4.heap.size _ [((m1 : Int), (m2 : Int))] rfl HL.out (by show _ * 17 ≤ _; simp only [List.length_cons, List.length_nil]; have := HLN.out; omega) ?_; intro v8 w8 r8 g8 at8; obtain ⟨a8, c8, e8⟩ := r8.form; simp only [List.length_append, List.length_cons, List.length_nil, Nat.zero_add] at e8; rw [HLN.out] at e8; subst e8; have J8 := J5.out.grow HB HX5.out g8 (fun k e => (I5.out.own.lt k e).1); have d4 := J8.chk.cell 4 _ rfl; have f4 := J8.chk.loose 4; have J9 := Lib.hid (J8.put HB 4 (.slice a8 (i + 1) c8)); have I9 := Lib.hid (r8.shift (stored_grown _ gX 4 (.slice a8 (i + 1) c8)) (.inr fun e => by have := (r8.own.lt _ e).1; have := HX5.out; omega)); clear J8)
      exact ⟨⟨i + 1, q2, d2, a8, c8, _, by simp, by omega, by omega, HCT.out.1, J9.out, by rw [HCT.out.2]; exact I9.out⟩, by first | omega | (simp [intOf]; omega)⟩
    · have HLN : Hid ((prsI (ns.drop 5)).length = i) := by show _ = _; rw [prsI_len, List.length_drop]; have := csN_len y (5 + 2 * i); rw [HCS.out] at this; simp only at this; omega
      have HH : Hid (∀ c', Hit t c' → b = false ∧ c' = ⟨(n1 : Int), (n2 : Int), (n3 : Int), (n4 : Int), prsI (ns.drop 5)⟩ ∧ ckTx c' = t.extract 0 q) := fun c' hc' => HEX.out i p b ns HCS.out hgo hi c' hc'
      generalize prsI (ns.drop 5) = rs at I HLN HH
      have hrl : rs.length = i := HLN.out
      subst hrl
      obtain ⟨tx, gd, hct, hg1, hg2⟩ := ct_form ⟨(n1 : Int), (n2 : Int), (n3 : Int), (n4 : Int), rs⟩
      have HCT : Hid (∀ x, Below wr.heap.size wr x → Calls Tryd.prog 12 #[.agg #[.int .i64 (n1 : Int), .int .i64 (n2 : Int), .int .i64 (n3 : Int), .int .i64 (n4 : Int), .slice a rs.length c]] x fun e w' => e = .returned (.tuple #[.string tx, .bool gd]) ∧ Below x.heap.size x w') := fun x hx => by
        rw [← hct]
        exact specCheckText_any ⟨(n1 : Int), (n2 : Int), (n3 : Int), (n4 : Int), rs⟩ a c x (I.hereU hx).rows (by show rs.length ≤ _; omega)
      have hout : Hid (rkO t = none ∧ (b = true ∨ (b = false ∧ gd = false) ∨ (b = false ∧ gd = true ∧ tx ≠ t.extract 0 q)) ∨ (rkO t = some ⟨(n1 : Int), (n2 : Int), (n3 : Int), (n4 : Int), rs⟩ ∧ b = false ∧ gd = true ∧ tx = t.extract 0 q)) := by
        show _ ∨ _
        cases hb : b with
        | true => exact .inl ⟨rkO_none fun c' hc' => (by have := (HH.out c' hc').1; rw [hb] at this; cases this), .inl rfl⟩
        | false =>
          cases hgd : gd with
          | false => exact .inl ⟨rkO_none fun c' hc' => (by obtain ⟨_, rfl, _⟩ := HH.out c' hc'; have := (hg2 hc'.1).1; rw [hgd] at this; cases this), .inr (.inl ⟨rfl, rfl⟩)⟩
          | true =>
            obtain ⟨hok, htx⟩ := hg1 hgd
            by_cases he : tx = t.extract 0 q
            · exact .inr ⟨rkO_some (hit_of hok (htx ▸ he)), rfl, rfl, he⟩
            · exact .inl ⟨rkO_none fun c' hc' => (by obtain ⟨_, rfl, h3⟩ := HH.out c' hc'; exact he (htx.trans h3)), .inr (.inr ⟨rfl, rfl, he⟩)⟩
      have hsl := fun wx => head_run hq wx
      have hcond : (¬ rs.length < n5) ∨ (rs.length < n5 ∧ ¬ rs.length < 20) ∨ (rs.length < n5 ∧ rs.length < 20 ∧ b = true) := by
        by_cases a1 : rs.length < n5
        · by_cases a2 : rs.length < 20
          · cases b with
            | true => exact .inr (.inr ⟨a1, a2, rfl⟩)
            | false => exact absurd ⟨a1, a2, rfl⟩ hgo
          · exact .inr (.inl ⟨a1, a2⟩)
        · exact .inl a1
      have ub := J.cur.cell 2 _ rfl
      obtain ⟨x0, x1, x2, x3, x4, _⟩ := J.chk.fiveC
      have HJ := Lib.hid J
      have HI := Lib.hid I
      clear hct hg1 hg2 HH HCS hgo J I HEX HLN
      rcases hcond with k1 | ⟨k1, k2⟩ | ⟨k1, k2, k3⟩
      · have i1 : ¬ (rs.length : Int) < (n5 : Int) := by omega
        clear k1
        go_wp2_with fail
        refine (HCT.out wr (Below.refl _ _)).mono ?_
        rintro e v1 ⟨rfl, k1⟩
        have J1 := HJ.out.later k1
        have ub1 := J1.cur.cell 2 _ rfl
        obtain ⟨y0, y1, y2, y3, y4, f0, f1, f2, f3, f4⟩ := J1.res.fiveC
        rcases hout.out with ⟨hno, ho⟩ | ⟨hyes, hb, hg, he⟩
        · have HN := Lib.hid hno
          have R5 := (((((J1.res.set 0 (.int .i64 0)).set 1 (.int .i64 0)).set 2 (.int .i64 0)).set 3 (.int .i64 0)).set 4 (.slice none 0 0))
          obtain ⟨u0, u1, u2, u3, u4, _⟩ := R5.fiveC
          have b2 := J1.bel
          have B5 := Lib.hid (((((b2.setCell (p := ⟨w.heap.size, 0, none⟩) (Nat.le_refl _) (.int .i64 0)).setCell (p := ⟨w.heap.size, 1, none⟩) (Nat.le_refl _) (.int .i64 0)).setCell (p := ⟨w.heap.size, 2, none⟩) (Nat.le_refl _) (.int .i64 0)).setCell (p := ⟨w.heap.size, 3, none⟩) (Nat.le_refl _) (.int .i64 0)).setCell (p := ⟨w.heap.size, 4, none⟩) (Nat.le_refl _) (.slice none 0 0))
          clear hno hout R5 b2 J1 k1 HJ HI HCT x0 x1 x2 x3 x4 ub
          rcases ho with hb | ⟨hb, hg⟩ | ⟨hb, hg, he⟩
          · first | subst hb | skip
            go_wp2_with fail
            refine bodyPost_ret (v := .tuple #[.agg #[.int .i64 0, .int .i64 0, .int .i64 0, .int .i64 0, .slice none 0 0], .bool false]) (by simp [results, Tryd.results4, go_sem, u0, u1, u2, u3, u4]) rfl ?_
            exact rkR_no HN.out B5.out
          · first | (cases hb; done) | skip
            all_goals first | subst hb | skip
            all_goals subst hg
            all_goals go_wp2_with fail
            all_goals (refine bodyPost_ret (v := .tuple #[.agg #[.int .i64 0, .int .i64 0, .int .i64 0, .int .i64 0, .slice none 0 0], .bool false]) (by simp [results, Tryd.results4, go_sem, u0, u1, u2, u3, u4]) rfl ?_; exact rkR_no HN.out B5.out)
          · first | (cases hb; done) | skip
            all_goals first | subst hb | skip
            all_goals subst hg
            all_goals have h8 := text_ne he
            all_goals go_wp2_with fail
            all_goals (refine bodyPost_ret (v := .tuple #[.agg #[.int .i64 0, .int .i64 0, .int .i64 0, .int .i64 0, .slice none 0 0], .bool false]) (by simp [results, Tryd.results4, go_sem, u0, u1, u2, u3, u4]) rfl ?_; exact rkR_no HN.out B5.out)
        · first | (cases hb; done) | skip
          all_goals first | subst hb | skip
          all_goals subst hg
          all_goals subst he
          have HY := Lib.hid hyes
          have R5 := (((((J1.res).set 0 (.int .i64 (n1 : Int))).set 1 (.int .i64 (n2 : Int))).set 2 (.int .i64 (n3 : Int))).set 3 (.int .i64 (n4 : Int))).set 4 (.slice a rs.length c)
          obtain ⟨u0, u1, u2, u3, u4, _⟩ := R5.fiveC
          obtain ⟨x0, x1, x2, x3, x4, _⟩ := J1.chk.fiveC
          have hne : (Value.slice a rs.length c).ownBlock = none ∨ (Value.slice a rs.length c).ownBlock ≠ some w.heap.size := .inr fun e => by have := (HI.out.own.lt _ e).1; have := HX5.out; omega
          have HD := (HI.out.hereU k1).down J1.bel (by have := HX5.out; omega)
          have hle : ∀ k, some w.heap.size = some k → w.heap.size ≤ k := fun k e => by cases e; exact Nat.le_refl _
          have F5 := Lib.hid ((((((HD).grown (stored_grown _ w.heap.size 0 (.int .i64 (n1 : Int))) hne hle).grown (stored_grown _ w.heap.size 1 (.int .i64 (n2 : Int))) hne hle).grown (stored_grown _ w.heap.size 2 (.int .i64 (n3 : Int))) hne hle).grown (stored_grown _ w.heap.size 3 (.int .i64 (n4 : Int))) hne hle).grown (stored_grown _ w.heap.size 4 (.slice a rs.length c)) hne hle)
          clear hyes hout R5 J1 k1 HJ HI HCT hne HD ub
          go_wp2_with fail
          refine bodyPost_ret (v := .tuple #[.agg #[.int .i64 (n1 : Int), .int .i64 (n2 : Int), .int .i64 (n3 : Int), .int .i64 (n4 : Int), .slice a rs.length c], .bool true]) (by simp [results, Tryd.results4, go_sem, u0, u1, u2, u3, u4]) rfl ?_
          exact rkR_yes (c := ⟨(n1 : Int), (n2 : Int), (n3 : Int), (n4 : Int), rs⟩) HY.out F5.out
      · have i1 : (rs.length : Int) < (n5 : Int) := by omega
        have i2 : ¬ (rs.length : Int) < 20 := by omega
        clear k1 k2
        go_wp2_with fail
        refine (HCT.out wr (Below.refl _ _)).mono ?_
        rintro e v1 ⟨rfl, k1⟩
        have J1 := HJ.out.later k1
        have ub1 := J1.cur.cell 2 _ rfl
        obtain ⟨y0, y1, y2, y3, y4, f0, f1, f2, f3, f4⟩ := J1.res.fiveC
        rcases hout.out with ⟨hno, ho⟩ | ⟨hyes, hb, hg, he⟩
        · have HN := Lib.hid hno
          have R5 := (((((J1.res.set 0 (.int .i64 0)).set 1 (.int .i64 0)).set 2 (.int .i64 0)).set 3 (.int .i64 0)).set 4 (.slice none 0 0))
          obtain ⟨u0, u1, u2, u3, u4, _⟩ := R5.fiveC
          have b2 := J1.bel
          have B5 := Lib.hid (((((b2.setCell (p := ⟨w.heap.size, 0, none⟩) (Nat.le_refl _) (.int .i64 0)).setCell (p := ⟨w.heap.size, 1, none⟩) (Nat.le_refl _) (.int .i64 0)).setCell (p := ⟨w.heap.size, 2, none⟩) (Nat.le_refl _) (.int .i64 0)).setCell (p := ⟨w.heap.size, 3, none⟩) (Nat.le_refl _) (.int .i64 0)).setCell (p := ⟨w.heap.size, 4, none⟩) (Nat.le_refl _) (.slice none 0 0))
          clear hno hout R5 b2 J1 k1 HJ HI HCT x0 x1 x2 x3 x4 ub
          rcases ho with hb | ⟨hb, hg⟩ | ⟨hb, hg, he⟩
          · first | subst hb | skip
            go_wp2_with fail
            refine bodyPost_ret (v := .tuple #[.agg #[.int .i64 0, .int .i64 0, .int .i64 0, .int .i64 0, .slice none 0 0], .bool false]) (by simp [results, Tryd.results4, go_sem, u0, u1, u2, u3, u4]) rfl ?_
            exact rkR_no HN.out B5.out
          · first | (cases hb; done) | skip
            all_goals first | subst hb | skip
            all_goals subst hg
            all_goals go_wp2_with fail
            all_goals (refine bodyPost_ret (v := .tuple #[.agg #[.int .i64 0, .int .i64 0, .int .i64 0, .int .i64 0, .slice none 0 0], .bool false]) (by simp [results, Tryd.results4, go_sem, u0, u1, u2, u3, u4]) rfl ?_; exact rkR_no HN.out B5.out)
          · first | (cases hb; done) | skip
            all_goals first | subst hb | skip
            all_goals subst hg
            all_goals have h8 := text_ne he
            all_goals go_wp2_with fail
            all_goals (refine bodyPost_ret (v := .tuple #[.agg #[.int .i64 0, .int .i64 0, .int .i64 0, .int .i64 0, .slice none 0 0], .bool false]) (by simp [results, Tryd.results4, go_sem, u0, u1, u2, u3, u4]) rfl ?_; exact rkR_no HN.out B5.out)
        · first | (cases hb; done) | skip
          all_goals first | subst hb | skip
          all_goals subst hg
          all_goals subst he
          have HY := Lib.hid hyes
          have R5 := (((((J1.res).set 0 (.int .i64 (n1 : Int))).set 1 (.int .i64 (n2 : Int))).set 2 (.int .i64 (n3 : Int))).set 3 (.int .i64 (n4 : Int))).set 4 (.slice a rs.length c)
          obtain ⟨u0, u1, u2, u3, u4, _⟩ := R5.fiveC
          obtain ⟨x0, x1, x2, x3, x4, _⟩ := J1.chk.fiveC
          have hne : (Value.slice a rs.length c).ownBlock = none ∨ (Value.slice a rs.length c).ownBlock ≠ some w.heap.size := .inr fun e => by have := (HI.out.own.lt _ e).1; have := HX5.out; omega
          have HD := (HI.out.hereU k1).down J1.bel (by have := HX5.out; omega)
          have hle : ∀ k, some w.heap.size = some k → w.heap.size ≤ k := fun k e => by cases e; exact Nat.le_refl _
          have F5 := Lib.hid ((((((HD).grown (stored_grown _ w.heap.size 0 (.int .i64 (n1 : Int))) hne hle).grown (stored_grown _ w.heap.size 1 (.int .i64 (n2 : Int))) hne hle).grown (stored_grown _ w.heap.size 2 (.int .i64 (n3 : Int))) hne hle).grown (stored_grown _ w.heap.size 3 (.int .i64 (n4 : Int))) hne hle).grown (stored_grown _ w.heap.size 4 (.slice a rs.length c)) hne hle)
          clear hyes hout R5 J1 k1 HJ HI HCT hne HD ub
          go_wp2_with fail
          refine bodyPost_ret (v := .tuple #[.agg #[.int .i64 (n1 : Int), .int .i64 (n2 : Int), .int .i64 (n3 : Int), .int .i64 (n4 : Int), .slice a rs.length c], .bool true]) (by simp [results, Tryd.results4, go_sem, u0, u1, u2, u3, u4]) rfl ?_
          exact rkR_yes (c := ⟨(n1 : Int), (n2 : Int), (n3 : Int), (n4 : Int), rs⟩) HY.out F5.out
      · have i1 : (rs.length : Int) < (n5 : Int) := by omega
        have i2 : (rs.length : Int) < 20 := by omega
        subst k3
        clear k1 k2
        go_wp2_with fail
        refine (HCT.out wr (Below.refl _ _)).mono ?_
        rintro e v1 ⟨rfl, k1⟩
        have J1 := HJ.out.later k1
        have ub1 := J1.cur.cell 2 _ rfl
        obtain ⟨y0, y1, y2, y3, y4, f0, f1, f2, f3, f4⟩ := J1.res.fiveC
        rcases hout.out with ⟨hno, _⟩ | ⟨_, hb, _⟩
        rotate_left
        · cases hb
        have HN := Lib.hid hno
        have R5 := (((((J1.res.set 0 (.int .i64 0)).set 1 (.int .i64 0)).set 2 (.int .i64 0)).set 3 (.int .i64 0)).set 4 (.slice none 0 0))
        obtain ⟨u0, u1, u2, u3, u4, _⟩ := R5.fiveC
        have b2 := J1.bel
        have B5 := Lib.hid (((((b2.setCell (p := ⟨w.heap.size, 0, none⟩) (Nat.le_refl _) (.int .i64 0)).setCell (p := ⟨w.heap.size, 1, none⟩) (Nat.le_refl _) (.int .i64 0)).setCell (p := ⟨w.heap.size, 2, none⟩) (Nat.le_refl _) (.int .i64 0)).setCell (p := ⟨w.heap.size, 3, none⟩) (Nat.le_refl _) (.int .i64 0)).setCell (p := ⟨w.heap.size, 4, none⟩) (Nat.le_refl _) (.slice none 0 0))
        clear hno hout R5 b2 J1 k1 HJ HI HCT x0 x1 x2 x3 x4 ub
        go_wp2_with fail
        refine bodyPost_ret (v := .tuple #[.agg #[.int .i64 0, .int .i64 0, .int .i64 0, .int .i64 0, .slice none 0 0], .bool false]) (by simp [results, Tryd.results4, go_sem, u0, u1, u2, u3, u4]) rfl ?_
        exact rkR_no HN.out B5.out

theorem specReadCheck_any (t : ByteArray) (w : World) (hs : t.size ≤ 1099511627776) : Calls Tryd.prog 4 #[.string t] w fun e w' => RkR t w e w' := by
  obtain ⟨x, q, o, hr, hq, hx⟩ := rs0_form t
  obtain ⟨y, f, hu, hy⟩ := un0_form x
  cases o with
  | false => exact specRC_no t w hs hr hx hu (.inl rfl)
  | true =>
    cases f with
    | false => exact specRC_no t w hs hr hx hu (.inr rfl)
    | true => exact specRC_go t w hs hr hx hq hu hy

end Go.Proofs.YtlnpegknjhbdnaaDoor

/- The table of sixteen words, where the row lays it. -/
namespace Go.Proofs.YtlnpegknjhbdnaaDoor
open Go.ChangeShapes Go.WideShapes Go.ChangeAt Go.RowKit
open Go.ChangeMaps (open_string shut_string)
set_option linter.unusedVariables false

theorem sumTabData : (Rows.laid_loop_example_g00287_impl_sumTable : DataW Unit) = Lib.tabData .u32 sumTabI := by rfl

theorem sumTab_of_laid {W : World} (h : laidMetH Tryd.prog [("loop.example/g00287/impl.sumTable", Rows.laid_loop_example_g00287_impl_sumTable)] W) : SumTab W := by
  rw [MakeChecks.laidMetH_plain _ _ _ (by kernel_rfl)] at h
  obtain ⟨ps, ⟨g0, t0, cs0, f0, p0, q0, hg0, ht0, hv0, hd0, _, _⟩, _⟩ := h
  have hg : Tryd.prog.globalNamed "loop.example/g00287/impl.sumTable" = some 1 := by kernel_rfl
  have ht : (Tryd.prog.globals[1]?).map (·.type) = some 121 := by kernel_rfl
  obtain rfl := Option.some.inj (hg.symm.trans hg0)
  obtain rfl := Option.some.inj (ht.symm.trans ht0)
  unfold SumTab Lib.TabIs
  rw [sumTabData] at hd0
  rw [hv0, ← Lib.cells_of_tab (P := Tryd.prog) Tryd.underlying121 Tryd.underlying51 (by kernel_rfl) (by kernel_rfl) hd0]

end Go.Proofs.YtlnpegknjhbdnaaDoor

/- The handle of the type error, out of what the row lays. -/
namespace Go.Proofs.YtlnpegknjhbdnaaDoor
open Go.RowKit

theorem err_et : Tryd.prog.globalNamed "errors.errorType" = some 0 := by kernel_rfl
theorem err_rt : (Tryd.prog.cutTypes.find? (·.1 == "internal/reflectlite.rtype")).map (·.2) = some 103 := by kernel_rfl
theorem err_oneRow : ((List.range 149).filter fun t => Tryd.prog.rowNamed t [101, 114, 114, 111, 114]) = [42] := by kernel_rfl
theorem err_size : Tryd.prog.types.size = 149 := by kernel_rfl

/-- From the handles that are met to the variable's one cell. -/
theorem errTab_of_handles {W : World} {l : List (String × DataW Unit)} (hm : ("errors.errorType", (.iface "internal/reflectlite.rtype" (.agg [.ptr (.lit (.string [101, 114, 114, 111, 114]))]) : DataW Unit)) ∈ l) (h : handlesMet Tryd.prog l W) : ErrTab W := by
  obtain ⟨name, u, ty, e1, e2, e3, e4, e5⟩ := h _ (by first | exact hm | exact List.mem_filter.2 ⟨hm, by kernel_rfl⟩)
  have en : name = [101, 114, 114, 111, 114] := (Option.some.inj e1).symm
  subst en
  obtain rfl := Option.some.inj (err_rt.symm.trans e2)
  have hm : ty ∈ (List.range 149).filter fun t => Tryd.prog.rowNamed t [101, 114, 114, 111, 114] := List.mem_filter.2 ⟨List.mem_range.2 (by rw [← err_size]; exact e3), e4⟩
  rw [err_oneRow] at hm
  obtain rfl := List.mem_singleton.1 hm
  have hh : typeHandle Tryd.prog 42 = .pointer (some ⟨2, 42, none⟩) := by kernel_rfl
  rw [hh] at e5
  unfold ErrTab
  simpa using World.var?_cell err_et e5 0

end Go.Proofs.YtlnpegknjhbdnaaDoor
