/- For every code: what the drawn records tell does not hang on the order in which they lie, nor on how often one lies there; it is what the model tells; nothing that was there is changed. No condition. -/
import Derived.Test.YthlbokfajiahpaaJl
import Derived.Test.YthlbokfajiahpaaJr
import Derived.ProofKit
import Derived.OpenShut
import Derived.ShutString
import Derived.ChangeOld
import Derived.Below
import Derived.Deep.RegionHeld3
namespace Go.Proofs.Ythlbokfajiahpaa
open Go.ChangeShapes Go.WideShapes Go.ChangeAt Go.RowKit
open Go.ChangeMaps (open_string shut_string)
set_option linter.unusedVariables false

/-- What the law's last step keeps. -/
structure AnyS (w : World) (g : Nat) (vs vm : Value) (m : List Itm) (vt : Value) (t : List Itm) (vl : Value) (l : List Itm) (x : World) : Prop where
  cell : x.cell? ⟨g, 0, none⟩ = some vs
  rm : Rows' itE x vm m
  rt : Rows' itE x vt t
  rl : RBuf itE w.heap.size w x vl l
  st : BRd x vs (stateL l)
theorem AnyS.later {w : World} {g : Nat} {vs vm : Value} {m : List Itm} {vt : Value} {t : List Itm} {vl : Value} {l : List Itm} {x y : World} (h : AnyS w g vs vm m vt t vl l x) (hb : Below x.heap.size x y) : AnyS w g vs vm m vt t vl l y :=
  ⟨(hb.cell (p := ⟨g, 0, none⟩) (World.block_lt_of_cell? _ _ h.cell)).trans h.cell, h.rm.later hb, h.rt.later hb, h.rl.later hb, h.st.later hb⟩

theorem belDrew' (w : World) : Below w.heap.size w w.drew := (Below.refl _ _).drew

set_option maxRecDepth 100000 in
set_option maxHeartbeats 12000000 in
theorem walk_FnAnyOrder (a : Option Addr) (len cap : Nat) {w : World} (hcode : CodeIn w a len) :
    Calls Try.prog 4 #[.slice a len cap] w fun e w' => e = .returned (.bool true) ∧ Below w.heap.size w w' := by
  by_cases hbig : (1048576 : Int) < (len : Int)
  · go_enter Try.func4, Try.ntmps4
    go_wp2_with (go_at_call 9; refine (big_any a len cap _).mono ?_; rintro e w1 ⟨rfl, rfl⟩; rw [decide_eq_true hbig])
    go_ret
    exact ⟨rfl, Below.refl _ _⟩
  have hlen : len ≤ 1048576 := by omega
  have HCD := Lib.hid hcode
  clear hcode
  go_enter Try.func4, Try.ntmps4
  go_wp2_with fail
  refine (big_any a len cap _).mono ?_
  rintro e w0 ⟨rfl, rfl⟩
  rw [decide_eq_false (show ¬ (1048576 : Int) < (len : Int) by omega)]
  go_wp2_with fail
  refine (drawItems_any a len cap _ HCD.out hlen).mono ?_
  rintro e w1 ⟨l, v1, hD, rfl, hb1, hrow⟩
  obtain ⟨g1, c1, rfl, hc1⟩ := hrow
  have HD := Lib.hid hD
  clear hD
  have hl23 : l.length ≤ 23 := HD.out.2.1
  have b1 := hb1.bel
  go_wp2_with fail
  refine (drawPlaces_any a len cap _ (HCD.out.later b1) hlen).mono ?_
  rintro e w2 ⟨lz, vz, hlz, hz, rfl, hib⟩
  have k2 := hib.bel
  obtain ⟨gp, cp, z0, z1, rfl, hcp, hgp, hp0, hp1⟩ := places2 hlz hz hib
  have hb2 := hb1.later k2
  have HP : Hid (∀ x, Below w2.heap.size w2 x → x.cell? ⟨gp, 0, none⟩ = some (.int .i64 (z0 : Int)) ∧ x.cell? ⟨gp, 1, none⟩ = some (.int .i64 (z1 : Int))) := fun x hx => ⟨(hx.cell (p := ⟨gp, 0, none⟩) hgp).trans hp0, (hx.cell (p := ⟨gp, 1, none⟩) hgp).trans hp1⟩
  clear hib hz hlz k2 b1 hb1 hp0 hp1 hgp
  go_wp2_with fail
  refine (implStateOf_any l (by omega) _ _ hb2.rows).mono ?_
  rintro e w3 ⟨v3, hs3, rfl, S3, k3⟩
  have hs3l : Hid (hs3.length = (stateL l).length) := S3.len
  obtain ⟨p3, c3, rfl⟩ := S3.row.form
  have X5 := Box.new w3 #[.slice p3 hs3.length c3] 48
  have k4 := belNew w3 (.cells #[.slice p3 hs3.length c3] 48)
  have R4 := S3.rd.later k4
  have hb4 := (hb2.later k3).later k4
  have k24 := k3.trans (k4.mono k3.size)
  go_upto_region 6 with fail
  generalize w3.alloc (.cells #[.slice p3 hs3.length c3] 48) = w4 at X5 R4 hb4 k24 ⊢
  generalize w3.heap.size = g5 at X5 ⊢
  have HF : Hid (∀ x, Below w4.heap.size w4 x → RBuf itE w.heap.size w x (.slice (some ⟨g1, 0, none⟩) l.length c1) l ∧ (x.cell? ⟨gp, 0, none⟩ = some (.int .i64 (z0 : Int)) ∧ x.cell? ⟨gp, 1, none⟩ = some (.int .i64 (z1 : Int))) ∧ x.cell? ⟨g5, 0, none⟩ = some (.slice p3 hs3.length c3) ∧ BRd x (.slice p3 hs3.length c3) (stateL l)) := fun x hx =>
    ⟨hb4.later hx, HP.out _ (k24.trans (hx.mono k24.size)), (X5.later hx).cell 0 _ rfl, R4.later hx⟩
  clear k3 k4 k24 S3 hb2 hb4 R4 X5 HP
  by_cases h0 : l = []
  · have e0 : hs3.length = 0 := by rw [hs3l.out, h0, state_none]; rfl
    obtain rfl : hs3 = [] := List.eq_nil_of_length_eq_zero e0
    subst h0
    obtain ⟨q0, _, q2, _⟩ := HF.out _ (Below.refl _ _)
    have q1 := Lib.hid (implItemsOk_any [] _ _ q0.rows (by simp))
    have bE := q0.bel
    have hok : Hid (decide (itemsOk []) = true) := decide_eq_true HD.out.1
    simp only [List.length_nil] at q2 ⊢
    clear q0 hs3l e0 HF HD hl23 hc1
    go_upto_region 7 with fail
    go_wp2_with fail
    refine q1.out.mono ?_
    rintro e w5 ⟨rfl, k5⟩
    rw [hok.out]
    go_wp2
    go_ret
    exact ⟨rfl, bE.trans (k5.mono bE.size)⟩
  have h0l : 0 < l.length := List.length_pos_iff.2 h0
  obtain ⟨k, hk0⟩ : ∃ k : Nat, (z0 : Int) % (l.length : Int) = (k : Int) := Int.eq_ofNat_of_zero_le (Int.emod_nonneg _ (by omega))
  have hk : k < l.length := by have := Int.emod_lt_of_pos (z0 : Int) (show (0 : Int) < (l.length : Int) by omega); omega
  have htk : (z0 : Int).tmod (l.length : Int) = (k : Int) := by rw [Int.tmod_eq_emod_of_nonneg (by omega)]; exact hk0
  obtain ⟨q, hq0⟩ : ∃ q : Nat, (z1 : Int) % (l.length : Int) = (q : Int) := Int.eq_ofNat_of_zero_le (Int.emod_nonneg _ (by omega))
  have hq : q < l.length := by have := Int.emod_lt_of_pos (z1 : Int) (show (0 : Int) < (l.length : Int) by omega); omega
  have HTQ : Hid ((z1 : Int).tmod (l.length : Int) = (q : Int)) := by show _ = _; rw [Int.tmod_eq_emod_of_nonneg (by omega)]; exact hq0
  clear hk0 hq0
  have hln : ¬ ((l.length : Int) = 0) := by omega
  obtain ⟨hb4, ⟨q0, _⟩, _, _⟩ := HF.out _ (Below.refl _ _)
  have hm := Lib.hid (mixed_any l _ k _ hb4.rows h0l (by omega) hk)
  clear hb4
  go_upto_region 8 with fail
  go_wp2_with fail
  clear q0
  refine hm.out.mono ?_
  clear hm htk
  rintro e w5 ⟨m, vm, rfl, hbm, hml, hme⟩
  have HML := Lib.hid hml
  clear hml
  have k5 := hbm.bel
  have HF := (fun (HF : Hid (∀ x, Below w4.heap.size w4 x → RBuf itE w.heap.size w x (.slice (some ⟨g1, 0, none⟩) l.length c1) l ∧ (x.cell? ⟨gp, 0, none⟩ = some (.int .i64 (z0 : Int)) ∧ x.cell? ⟨gp, 1, none⟩ = some (.int .i64 (z1 : Int))) ∧ x.cell? ⟨g5, 0, none⟩ = some (.slice p3 hs3.length c3) ∧ BRd x (.slice p3 hs3.length c3) (stateL l))) => (show Hid (∀ x, Below w5.heap.size w5 x → RBuf itE w.heap.size w x (.slice (some ⟨g1, 0, none⟩) l.length c1) l ∧ (x.cell? ⟨gp, 0, none⟩ = some (.int .i64 (z0 : Int)) ∧ x.cell? ⟨gp, 1, none⟩ = some (.int .i64 (z1 : Int))) ∧ x.cell? ⟨g5, 0, none⟩ = some (.slice p3 hs3.length c3) ∧ BRd x (.slice p3 hs3.length c3) (stateL l)) from fun x hx => HF.out x (k5.trans (hx.mono k5.size)))) HF
  have HM : Hid (∀ x, Below w5.heap.size w5 x → Rows' itE x vm m) := fun x hx => hbm.rows.later hx
  have HME := Lib.hid hme
  obtain ⟨pm, cm, rfl⟩ := hbm.form
  clear hbm k5 hme
  have hqa : l[q]? = some (l[q]'hq) := List.getElem?_eq_getElem hq
  generalize l[q]'hq = z at hqa
  obtain ⟨sq, r⟩ := z
  have HQA := Lib.hid hqa
  have P1 : ∀ x, Below w5.heap.size w5 x → x.cell? ⟨gp, 1, none⟩ = some (.int .i64 (z1 : Int)) := fun x hx => (HF.out x hx).2.1.2
  have N9 := fun x (hx : Below w5.heap.size w5 x) => (HF.out x hx).1.nine q _ hqa
  dsimp only at N9
  have P1H := Lib.hid P1
  have N9H := Lib.hid N9
  clear P1 N9 hqa
  go_upto_region 9 with fail
  go_cut [7] (fun c wx => RBuf itE w5.heap.size wx wx c (l ++ [((sq, r) : Itm)]) ∧ Below w5.heap.size w5 wx)
  case first =>
    have P1 := P1H.out
    have N9 := N9H.out
    have htq := HTQ.out
    refine wp_region_held_drew (S := fun x => Below w5.heap.size w5 x) (by kernel_rfl) (belDrew' w5) (fun hHeld => ?_)
    refine takeL (i := 1) (v := .slice (some ⟨g1, 0, none⟩) l.length c1) rfl (by kernel_rfl) (by kernel_rfl) (by kernel_rfl) (fun _ _ _ h => h) (Or.inl ⟨by rfl, ?_⟩) (by assumption) ?_
    · intro x hSx; go_simp
    try simp only [Act.put, List.setIfInBounds_toArray, List.set_cons_zero, List.set_cons_succ]
    refine takeL (i := 3) (v := .slice (some ⟨g1, 0, none⟩) l.length c1) rfl (by kernel_rfl) (by kernel_rfl) (by kernel_rfl) (fun _ _ _ h => h) (Or.inl ⟨by rfl, ?_⟩) (by assumption) ?_
    · intro x hSx; go_simp
    try simp only [Act.put, List.setIfInBounds_toArray, List.set_cons_zero, List.set_cons_succ]
    refine takeL (i := 4) (v := .slice (some ⟨gp, 0, none⟩) 12 cp) rfl (by kernel_rfl) (by kernel_rfl) (by kernel_rfl) (fun _ _ _ h => h) (Or.inl ⟨by rfl, ?_⟩) (by assumption) ?_
    · intro x hSx; go_simp
    try simp only [Act.put, List.setIfInBounds_toArray, List.set_cons_zero, List.set_cons_succ]
    refine takeL (i := 5) (v := .pointer (some ⟨gp, 1, none⟩)) rfl (by kernel_rfl) (by kernel_rfl) (by kernel_rfl) (fun _ _ _ h => h) (Or.inl ⟨by rfl, ?_⟩) (by assumption) ?_
    · intro x hSx; go_simp
    try simp only [Act.put, List.setIfInBounds_toArray, List.set_cons_zero, List.set_cons_succ]
    refine takeL (i := 6) (v := .int .i64 (z1 : Int)) rfl (by kernel_rfl) (by kernel_rfl) (by kernel_rfl) (fun _ _ _ h => h) (Or.inl ⟨by rfl, ?_⟩) (by assumption) ?_
    · intro x hSx; have q0 := P1 x hSx; go_simp
    try simp only [Act.put, List.setIfInBounds_toArray, List.set_cons_zero, List.set_cons_succ]
    refine takeL (i := 7) (v := .slice (some ⟨g1, 0, none⟩) l.length c1) rfl (by kernel_rfl) (by kernel_rfl) (by kernel_rfl) (fun _ _ _ h => h) (Or.inl ⟨by rfl, ?_⟩) (by assumption) ?_
    · intro x hSx; go_simp
    try simp only [Act.put, List.setIfInBounds_toArray, List.set_cons_zero, List.set_cons_succ]
    refine takeL (i := 8) (v := .int .i64 (l.length : Int)) rfl (by kernel_rfl) (by kernel_rfl) (by kernel_rfl) (fun _ _ _ h => h) (Or.inl ⟨by rfl, ?_⟩) (by assumption) ?_
    · intro x hSx; go_simp
    try simp only [Act.put, List.setIfInBounds_toArray, List.set_cons_zero, List.set_cons_succ]
    refine takeL (i := 9) (v := .int .i64 (q : Int)) rfl (by kernel_rfl) (by kernel_rfl) (by kernel_rfl) (fun _ _ _ h => h) (Or.inl ⟨by rfl, ?_⟩) (by assumption) ?_
    · intro x hSx; go_simp
    try simp only [Act.put, List.setIfInBounds_toArray, List.set_cons_zero, List.set_cons_succ]
    refine takeL (i := 10) (v := .pointer (some ⟨g1, q * 9, none⟩)) rfl (by kernel_rfl) (by kernel_rfl) (by kernel_rfl) (fun _ _ _ h => h) (Or.inl ⟨by rfl, ?_⟩) (by assumption) ?_
    · intro x hSx; go_simp
    try simp only [Act.put, List.setIfInBounds_toArray, List.set_cons_zero, List.set_cons_succ]
    refine takeL (i := 11) (v := .agg #[.int .i64 sq, .int .i64 r.kind, .int .i64 r.valid, .int .i64 r.uid, .int .i64 r.next, .int .i64 r.flags, .string r.user, .string r.name, .string r.text]) rfl (by kernel_rfl) (by kernel_rfl) (by kernel_rfl) (fun _ _ _ h => h) (Or.inl ⟨by rfl, ?_⟩) (by assumption) ?_
    · intro x hSx; obtain ⟨d0, d1, d2, d3, d4, d5, d6, d7, d8⟩ := N9 x hSx; go_simp
    try simp only [Act.put, List.setIfInBounds_toArray, List.set_cons_zero, List.set_cons_succ]
    have hzW : w5.heap.size ≤ w5.drew.heap.size := Nat.le_refl _
    generalize w5.drew = X0 at hHeld hzW ⊢
    have hzX0 := hzW
    clear hzW
    refine wpAnyH_ready (rs := [0, 12]) (by kernel_rfl) (by simp) ?_
    refine readyTwo rfl rfl (fun K' hK => ?_) (fun K' hK => ?_)
    · skip
      go_simp
      refine hK.out _ _ (hHeld.trans ((belNew X0 (.cells #[] 34)).mono hHeld.size)) (fun hS2 => ?_)
      clear hK K' hHeld
      have hHeld := hS2
      clear hS2
      try simp only [Act.put, List.setIfInBounds_toArray, List.set_cons_zero, List.set_cons_succ]
      have R : RBuf itE w5.heap.size (X0.alloc (.cells #[] 34)) (X0.alloc (.cells #[] 34)) (.slice (some ⟨X0.heap.size, 0, none⟩) 0 0) [] := (RBuf.fresh itE X0).here.lower hzX0
      have bN := belNew X0 (.cells #[] 34)
      clear bN
      have hlt1 : Hid (X0.heap.size < (X0.alloc (.cells #[] 34)).heap.size) := by show _ < _; simp
      have hzX1 : w5.heap.size ≤ (X0.alloc (.cells #[] 34)).heap.size := hHeld.size
      clear hzX0
      generalize X0.alloc (.cells #[] 34) = X1 at hHeld R hzX1 hlt1 ⊢
      generalize X0.heap.size = gA at R hlt1 ⊢
      refine wpAnyH_ready (rs := [2, 12]) (by kernel_rfl) (by simp) ?_
      refine readyTwo rfl rfl (fun K' hK => ?_) (fun K' hK => ?_)
      · skip
        refine step_append_rd rfl _ _ itE rfl w5.heap.size _ [] rfl R _ l rfl (HF.out _ hHeld).1.rows (by show _ * 97 ≤ _; simp only [List.length_nil]; omega) ?_
        intro v' w' r' g' at' hlt'
        rw [List.nil_append] at r'
        obtain ⟨va, vc, rfl⟩ := r'.form
        refine hK.out _ _ (hHeld.grown g' hHeld.size (fun k hk => (hlt' k hk).1)) (fun hS2 => ?_)
        clear hK K' hHeld
        have hHeld := hS2
        clear hS2
        try simp only [Act.put, List.setIfInBounds_toArray, List.set_cons_zero, List.set_cons_succ]
        clear R
        have R := r'
        clear r' at' hlt'
        have hzw' : w5.heap.size ≤ w'.heap.size := hHeld.size
        refine wpAnyH_ready (rs := [12]) (by kernel_rfl) (by simp) ?_
        refine readyOne rfl (fun K' hK => ?_)
        go_simp
        refine hK.out _ _ (hHeld.trans ((belNew w' (.cells #[.int .i64 sq, .int .i64 r.kind, .int .i64 r.valid, .int .i64 r.uid, .int .i64 r.next, .int .i64 r.flags, .string r.user, .string r.name, .string r.text] 34)).mono hHeld.size)) (fun hS2 => ?_)
        clear hK K' hHeld
        have hHeld := hS2
        clear hS2
        try simp only [Act.put, List.setIfInBounds_toArray, List.set_cons_zero, List.set_cons_succ]
        have L : RBuf itE w5.heap.size (w'.alloc (.cells #[.int .i64 sq, .int .i64 r.kind, .int .i64 r.valid, .int .i64 r.uid, .int .i64 r.next, .int .i64 r.flags, .string r.user, .string r.name, .string r.text] 34)) (w'.alloc (.cells #[.int .i64 sq, .int .i64 r.kind, .int .i64 r.valid, .int .i64 r.uid, .int .i64 r.next, .int .i64 r.flags, .string r.user, .string r.name, .string r.text] 34)) (.slice (some ⟨w'.heap.size, 0, none⟩) 1 1) [((sq, r) : Itm)] := (RBuf.lit1 itE w' (sq, r)).lower hzw'
        have bL := belNew w' (.cells #[.int .i64 sq, .int .i64 r.kind, .int .i64 r.valid, .int .i64 r.uid, .int .i64 r.next, .int .i64 r.flags, .string r.user, .string r.name, .string r.text] 34)
        replace R := (R.later bL).here
        clear bL
        refine wpAnyH_ready (rs := [13]) (by kernel_rfl) (by simp) ?_
        refine readyOne rfl (fun K' hK => ?_)
        refine step_append_rows rfl _ _ itE rfl w5.heap.size _ l rfl R _ _ [((sq, r) : Itm)] rfl L (by show _ * 97 ≤ _; simp only [List.length_cons, List.length_nil]; omega) ?_
        intro v' w'' r'' g'' at'' hlt''
        obtain ⟨vd, ve, hvf⟩ := r''.form
        simp only [List.length_append, List.length_cons, List.length_nil, Nat.zero_add] at hvf
        subst hvf
        refine hK.out _ _ (hHeld.grown g'' hHeld.size (fun k hk => (hlt'' k hk).1)) (fun hS2 => ?_)
        clear hK K' hHeld
        have hHeld := hS2
        clear hS2
        try simp only [Act.put, List.setIfInBounds_toArray, List.set_cons_zero, List.set_cons_succ]
        refine takeL (i := 14) (v := .slice vd (l.length + 1) ve) rfl (by kernel_rfl) (by kernel_rfl) (by kernel_rfl) (fun _ _ _ h => h) (Or.inl ⟨by rfl, ?_⟩) (by assumption) ?_
        · intro x hSx; go_simp
        try simp only [Act.put, List.setIfInBounds_toArray, List.set_cons_zero, List.set_cons_succ]
        refine wpAnyH_done (by kernel_rfl) ?_ _
        go_wp2_with fail
        go_meet
        exact ⟨r'', hHeld⟩
      · skip
        go_simp
        refine hK.out _ _ (hHeld.trans ((belNew X1 (.cells #[.int .i64 sq, .int .i64 r.kind, .int .i64 r.valid, .int .i64 r.uid, .int .i64 r.next, .int .i64 r.flags, .string r.user, .string r.name, .string r.text] 34)).mono hHeld.size)) (fun hS2 => ?_)
        clear hK K' hHeld
        have hHeld := hS2
        clear hS2
        try simp only [Act.put, List.setIfInBounds_toArray, List.set_cons_zero, List.set_cons_succ]
        have L : RBuf itE w5.heap.size (X1.alloc (.cells #[.int .i64 sq, .int .i64 r.kind, .int .i64 r.valid, .int .i64 r.uid, .int .i64 r.next, .int .i64 r.flags, .string r.user, .string r.name, .string r.text] 34)) (X1.alloc (.cells #[.int .i64 sq, .int .i64 r.kind, .int .i64 r.valid, .int .i64 r.uid, .int .i64 r.next, .int .i64 r.flags, .string r.user, .string r.name, .string r.text] 34)) (.slice (some ⟨X1.heap.size, 0, none⟩) 1 1) [((sq, r) : Itm)] := (RBuf.lit1 itE X1 (sq, r)).lower hzX1
        have bL := belNew X1 (.cells #[.int .i64 sq, .int .i64 r.kind, .int .i64 r.valid, .int .i64 r.uid, .int .i64 r.next, .int .i64 r.flags, .string r.user, .string r.name, .string r.text] 34)
        replace R := (R.later bL).here
        clear bL
        have hne : Hid (X1.heap.size ≠ gA) := by have := hlt1.out; show _ ≠ _; omega
        refine wpAnyH_ready (rs := [2]) (by kernel_rfl) (by simp) ?_
        refine readyOne rfl (fun K' hK => ?_)
        refine step_append_rd rfl _ _ itE rfl w5.heap.size _ [] rfl R _ l rfl (HF.out _ hHeld).1.rows (by show _ * 97 ≤ _; simp only [List.length_nil]; omega) ?_
        intro v' w' r' g' at' hlt'
        rw [List.nil_append] at r'
        obtain ⟨va, vc, rfl⟩ := r'.form
        refine hK.out _ _ (hHeld.grown g' hHeld.size (fun k hk => (hlt' k hk).1)) (fun hS2 => ?_)
        clear hK K' hHeld
        have hHeld := hS2
        clear hS2
        try simp only [Act.put, List.setIfInBounds_toArray, List.set_cons_zero, List.set_cons_succ]
        replace L := L.shift g' (.inr (fun e => hne.out (Option.some.inj e)))
        clear R
        have R := r'
        clear r' at' hlt'
        refine wpAnyH_ready (rs := [13]) (by kernel_rfl) (by simp) ?_
        refine readyOne rfl (fun K' hK => ?_)
        refine step_append_rows rfl _ _ itE rfl w5.heap.size _ l rfl R _ _ [((sq, r) : Itm)] rfl L (by show _ * 97 ≤ _; simp only [List.length_cons, List.length_nil]; omega) ?_
        intro v' w'' r'' g'' at'' hlt''
        obtain ⟨vd, ve, hvf⟩ := r''.form
        simp only [List.length_append, List.length_cons, List.length_nil, Nat.zero_add] at hvf
        subst hvf
        refine hK.out _ _ (hHeld.grown g'' hHeld.size (fun k hk => (hlt'' k hk).1)) (fun hS2 => ?_)
        clear hK K' hHeld
        have hHeld := hS2
        clear hS2
        try simp only [Act.put, List.setIfInBounds_toArray, List.set_cons_zero, List.set_cons_succ]
        refine takeL (i := 14) (v := .slice vd (l.length + 1) ve) rfl (by kernel_rfl) (by kernel_rfl) (by kernel_rfl) (fun _ _ _ h => h) (Or.inl ⟨by rfl, ?_⟩) (by assumption) ?_
        · intro x hSx; go_simp
        try simp only [Act.put, List.setIfInBounds_toArray, List.set_cons_zero, List.set_cons_succ]
        refine wpAnyH_done (by kernel_rfl) ?_ _
        go_wp2_with fail
        go_meet
        exact ⟨r'', hHeld⟩
    · skip
      go_simp
      refine hK.out _ _ (hHeld.trans ((belNew X0 (.cells #[.int .i64 sq, .int .i64 r.kind, .int .i64 r.valid, .int .i64 r.uid, .int .i64 r.next, .int .i64 r.flags, .string r.user, .string r.name, .string r.text] 34)).mono hHeld.size)) (fun hS2 => ?_)
      clear hK K' hHeld
      have hHeld := hS2
      clear hS2
      try simp only [Act.put, List.setIfInBounds_toArray, List.set_cons_zero, List.set_cons_succ]
      have L : RBuf itE w5.heap.size (X0.alloc (.cells #[.int .i64 sq, .int .i64 r.kind, .int .i64 r.valid, .int .i64 r.uid, .int .i64 r.next, .int .i64 r.flags, .string r.user, .string r.name, .string r.text] 34)) (X0.alloc (.cells #[.int .i64 sq, .int .i64 r.kind, .int .i64 r.valid, .int .i64 r.uid, .int .i64 r.next, .int .i64 r.flags, .string r.user, .string r.name, .string r.text] 34)) (.slice (some ⟨X0.heap.size, 0, none⟩) 1 1) [((sq, r) : Itm)] := (RBuf.lit1 itE X0 (sq, r)).lower hzX0
      have bL := belNew X0 (.cells #[.int .i64 sq, .int .i64 r.kind, .int .i64 r.valid, .int .i64 r.uid, .int .i64 r.next, .int .i64 r.flags, .string r.user, .string r.name, .string r.text] 34)
      clear bL
      have hlt1 : Hid (X0.heap.size < (X0.alloc (.cells #[.int .i64 sq, .int .i64 r.kind, .int .i64 r.valid, .int .i64 r.uid, .int .i64 r.next, .int .i64 r.flags, .string r.user, .string r.name, .string r.text] 34)).heap.size) := by show _ < _; simp
      have hzX1 : w5.heap.size ≤ (X0.alloc (.cells #[.int .i64 sq, .int .i64 r.kind, .int .i64 r.valid, .int .i64 r.uid, .int .i64 r.next, .int .i64 r.flags, .string r.user, .string r.name, .string r.text] 34)).heap.size := hHeld.size
      clear hzX0
      generalize X0.alloc (.cells #[.int .i64 sq, .int .i64 r.kind, .int .i64 r.valid, .int .i64 r.uid, .int .i64 r.next, .int .i64 r.flags, .string r.user, .string r.name, .string r.text] 34) = X1 at hHeld L hzX1 hlt1 ⊢
      generalize X0.heap.size = gA at L hlt1 ⊢
      refine wpAnyH_ready (rs := [0]) (by kernel_rfl) (by simp) ?_
      refine readyOne rfl (fun K' hK => ?_)
      go_simp
      refine hK.out _ _ (hHeld.trans ((belNew X1 (.cells #[] 34)).mono hHeld.size)) (fun hS2 => ?_)
      clear hK K' hHeld
      have hHeld := hS2
      clear hS2
      try simp only [Act.put, List.setIfInBounds_toArray, List.set_cons_zero, List.set_cons_succ]
      have R : RBuf itE w5.heap.size (X1.alloc (.cells #[] 34)) (X1.alloc (.cells #[] 34)) (.slice (some ⟨X1.heap.size, 0, none⟩) 0 0) [] := (RBuf.fresh itE X1).here.lower hzX1
      have bN := belNew X1 (.cells #[] 34)
      replace L := (L.later bN).here
      clear bN
      have hne : Hid (gA ≠ X1.heap.size) := by have := hlt1.out; show _ ≠ _; omega
      refine wpAnyH_ready (rs := [2]) (by kernel_rfl) (by simp) ?_
      refine readyOne rfl (fun K' hK => ?_)
      refine step_append_rd rfl _ _ itE rfl w5.heap.size _ [] rfl R _ l rfl (HF.out _ hHeld).1.rows (by show _ * 97 ≤ _; simp only [List.length_nil]; omega) ?_
      intro v' w' r' g' at' hlt'
      rw [List.nil_append] at r'
      obtain ⟨va, vc, rfl⟩ := r'.form
      refine hK.out _ _ (hHeld.grown g' hHeld.size (fun k hk => (hlt' k hk).1)) (fun hS2 => ?_)
      clear hK K' hHeld
      have hHeld := hS2
      clear hS2
      try simp only [Act.put, List.setIfInBounds_toArray, List.set_cons_zero, List.set_cons_succ]
      replace L := L.shift g' (.inr (fun e => hne.out (Option.some.inj e)))
      clear R
      have R := r'
      clear r' at' hlt'
      refine wpAnyH_ready (rs := [13]) (by kernel_rfl) (by simp) ?_
      refine readyOne rfl (fun K' hK => ?_)
      refine step_append_rows rfl _ _ itE rfl w5.heap.size _ l rfl R _ _ [((sq, r) : Itm)] rfl L (by show _ * 97 ≤ _; simp only [List.length_cons, List.length_nil]; omega) ?_
      intro v' w'' r'' g'' at'' hlt''
      obtain ⟨vd, ve, hvf⟩ := r''.form
      simp only [List.length_append, List.length_cons, List.length_nil, Nat.zero_add] at hvf
      subst hvf
      refine hK.out _ _ (hHeld.grown g'' hHeld.size (fun k hk => (hlt'' k hk).1)) (fun hS2 => ?_)
      clear hK K' hHeld
      have hHeld := hS2
      clear hS2
      try simp only [Act.put, List.setIfInBounds_toArray, List.set_cons_zero, List.set_cons_succ]
      refine takeL (i := 14) (v := .slice vd (l.length + 1) ve) rfl (by kernel_rfl) (by kernel_rfl) (by kernel_rfl) (fun _ _ _ h => h) (Or.inl ⟨by rfl, ?_⟩) (by assumption) ?_
      · intro x hSx; go_simp
      try simp only [Act.put, List.setIfInBounds_toArray, List.set_cons_zero, List.set_cons_succ]
      refine wpAnyH_done (by kernel_rfl) ?_ _
      go_wp2_with fail
      go_meet
      exact ⟨r'', hHeld⟩
  case rest =>
    obtain ⟨hbt, k6⟩ := hcut
    obtain ⟨pt, ct, hvt⟩ := hbt.form
    subst hvt
    clear P1H N9H HTQ
    have hmq : (sq, r) ∈ l := List.mem_of_getElem? HQA.out
    have hmt : ∀ x, x ∈ l ++ [((sq, r) : Itm)] ↔ x ∈ l := fun x => ⟨fun h => by
      rcases List.mem_append.1 h with h | h
      · exact h
      · simp at h; rw [h]; exact hmq, fun h => List.mem_append_left _ h⟩
    have HT : Hid (stateL (l ++ [((sq, r) : Itm)]) = stateL l) := state_same HD.out.1 hmt (by simp; omega)
    have HMS : Hid (stateL m = stateL l) := state_same HD.out.1 HME.out (by have := HML.out; omega)
    have HMO : Hid (decide (itemsOk m) = true) := decide_eq_true (items_same HD.out.1 HME.out (by have := HML.out; omega))
    have HSL : Hid ((stateL l).length ≤ 1099511627776 ∧ ∀ b ∈ stateL l, b.mails.length ≤ 1099511627776) := ⟨by have := (stateL_small l).1; omega, fun b hb => by have := (stateL_small l).2 b hb; omega⟩
    have HSZ : Hid (∀ x ∈ l, x.2.user.size ≤ 1099511627776 ∧ x.2.name.size ≤ 1099511627776 ∧ x.2.text.size ≤ 1099511627776) := fun x hx => by
      have h1 := HD.out.2.2 x hx
      unfold Rc.slim at h1
      omega
    have hm23 : m.length ≤ 23 := by have := HML.out; omega
    have ht24 : Hid ((l ++ [((sq, r) : Itm)]).length ≤ 1048576) := by show _ ≤ _; simp; omega
    have H0 := (fun (y : World) (ky : Below w5.heap.size w5 y) (hy : Rows' itE y (.slice pt (l ++ [((sq, r) : Itm)]).length ct) (l ++ [((sq, r) : Itm)])) => (show Hid (AnyS w g5 (.slice p3 hs3.length c3) (.slice pm m.length cm) m (.slice pt (l.length + 1) ct) (l ++ [((sq, r) : Itm)]) (.slice (some ⟨g1, 0, none⟩) l.length c1) l y) from by
      obtain ⟨u0, _, u2, u3⟩ := HF.out y ky
      exact ⟨u2, HM.out y ky, by rw [List.length_append] at hy; exact hy, u0, u3⟩)) _ k6 hbt.rows
    clear hmq hmt HD HME HF HM HQA hs3l
    clear hbt k6
    simp only [List.length_append, List.length_cons, List.length_nil, Nat.zero_add]
    go_upto_region 10 with fail
    refine wp_region_held_drew (S := fun x => AnyS w g5 (.slice p3 hs3.length c3) (.slice pm m.length cm) m (.slice pt (l.length + 1) ct) (l ++ [((sq, r) : Itm)]) (.slice (some ⟨g1, 0, none⟩) l.length c1) l x) (by kernel_rfl) (H0.out.later (belDrew' _)) (fun hHeld => ?_)
    refine takeL (i := 0) (v := .slice pm m.length cm) rfl (by kernel_rfl) (by kernel_rfl) (by kernel_rfl) (fun _ _ _ h => h) (Or.inl ⟨by rfl, ?_⟩) (by assumption) ?_
    · intro x hSx; go_simp
    try simp only [Act.put, List.setIfInBounds_toArray, List.set_cons_zero, List.set_cons_succ]
    refine takeL (i := 2) (v := .agg #[.slice p3 hs3.length c3]) rfl (by kernel_rfl) (by kernel_rfl) (by kernel_rfl) (fun _ _ _ h => h) (Or.inl ⟨by rfl, ?_⟩) (by assumption) ?_
    · intro x hSx; have q0 := hSx.cell; go_simp
    try simp only [Act.put, List.setIfInBounds_toArray, List.set_cons_zero, List.set_cons_succ]
    refine wpAnyH_ready (rs := [1]) (by kernel_rfl) (by simp) ?_
    refine readyOne rfl (fun K' hK => ?_)
    go_simp
    refine (implStateOf_any m (by omega) _ _ hHeld.rm).mono ?_
    rintro e wA ⟨vA, hsA, rfl, SA, kA⟩
    rw [HMS.out] at SA
    have hN := hHeld.later kA
    go_wp2_with fail
    refine hK.out _ _ hN (fun hS2 => ?_)
    clear hK K' hHeld hN
    have hHeld := hS2
    clear hS2
    try simp only [Act.put, List.setIfInBounds_toArray, List.set_cons_zero, List.set_cons_succ]
    refine wpAnyH_ready (rs := [3]) (by kernel_rfl) (by simp) ?_
    refine readyOne rfl (fun K' hK => ?_)
    go_simp
    refine (implSameState_any (stateL l) (stateL l) _ _ _ SA.rd hHeld.st HSL.out.1 HSL.out.2).mono ?_
    rintro e wB ⟨rfl, kB⟩
    rw [sameS_yes rfl]
    clear SA kA
    have hN := hHeld.later kB
    go_wp2_with fail
    refine hK.out _ _ hN (fun hS2 => ?_)
    clear hK K' hHeld hN
    have hHeld := hS2
    clear hS2
    try simp only [Act.put, List.setIfInBounds_toArray, List.set_cons_zero, List.set_cons_succ]
    clear kB
    refine takeL (i := 4) (v := .bool true) rfl (by kernel_rfl) (by kernel_rfl) (by kernel_rfl) (fun _ _ _ h => h) (Or.inl ⟨by rfl, ?_⟩) (by assumption) ?_
    · intro x hSx; go_simp
    try simp only [Act.put, List.setIfInBounds_toArray, List.set_cons_zero, List.set_cons_succ]
    refine takeL (i := 5) (v := .slice pt (l.length + 1) ct) rfl (by kernel_rfl) (by kernel_rfl) (by kernel_rfl) (fun _ _ _ h => h) (Or.inl ⟨by rfl, ?_⟩) (by assumption) ?_
    · intro x hSx; go_simp
    try simp only [Act.put, List.setIfInBounds_toArray, List.set_cons_zero, List.set_cons_succ]
    refine takeL (i := 7) (v := .agg #[.slice p3 hs3.length c3]) rfl (by kernel_rfl) (by kernel_rfl) (by kernel_rfl) (fun _ _ _ h => h) (Or.inl ⟨by rfl, ?_⟩) (by assumption) ?_
    · intro x hSx; have q0 := hSx.cell; go_simp
    try simp only [Act.put, List.setIfInBounds_toArray, List.set_cons_zero, List.set_cons_succ]
    refine wpAnyH_ready (rs := [6]) (by kernel_rfl) (by simp) ?_
    refine readyOne rfl (fun K' hK => ?_)
    go_simp
    refine (implStateOf_any (l ++ [((sq, r) : Itm)]) ht24.out _ _ hHeld.rt).mono ?_
    rintro e wC ⟨vC, hsC, rfl, SC, kC⟩
    rw [HT.out] at SC
    have hN := hHeld.later kC
    go_wp2_with fail
    refine hK.out _ _ hN (fun hS2 => ?_)
    clear hK K' hHeld hN
    have hHeld := hS2
    clear hS2
    try simp only [Act.put, List.setIfInBounds_toArray, List.set_cons_zero, List.set_cons_succ]
    refine wpAnyH_ready (rs := [8]) (by kernel_rfl) (by simp) ?_
    refine readyOne rfl (fun K' hK => ?_)
    go_simp
    refine (implSameState_any (stateL l) (stateL l) _ _ _ SC.rd hHeld.st HSL.out.1 HSL.out.2).mono ?_
    rintro e wD ⟨rfl, kD⟩
    rw [sameS_yes rfl]
    clear SC kC
    have hN := hHeld.later kD
    go_wp2_with fail
    refine hK.out _ _ hN (fun hS2 => ?_)
    clear hK K' hHeld hN
    have hHeld := hS2
    clear hS2
    try simp only [Act.put, List.setIfInBounds_toArray, List.set_cons_zero, List.set_cons_succ]
    clear kD
    refine takeL (i := 9) (v := .bool true) rfl (by kernel_rfl) (by kernel_rfl) (by kernel_rfl) (fun _ _ _ h => h) (Or.inl ⟨by rfl, ?_⟩) (by assumption) ?_
    · intro x hSx; go_simp
    try simp only [Act.put, List.setIfInBounds_toArray, List.set_cons_zero, List.set_cons_succ]
    refine takeL (i := 10) (v := .bool true) rfl (by kernel_rfl) (by kernel_rfl) (by kernel_rfl) (fun _ _ _ h => h) (Or.inl ⟨by rfl, ?_⟩) (by assumption) ?_
    · intro x hSx; go_simp
    try simp only [Act.put, List.setIfInBounds_toArray, List.set_cons_zero, List.set_cons_succ]
    refine takeL (i := 11) (v := .agg #[.slice p3 hs3.length c3]) rfl (by kernel_rfl) (by kernel_rfl) (by kernel_rfl) (fun _ _ _ h => h) (Or.inl ⟨by rfl, ?_⟩) (by assumption) ?_
    · intro x hSx; have q0 := hSx.cell; go_simp
    try simp only [Act.put, List.setIfInBounds_toArray, List.set_cons_zero, List.set_cons_succ]
    refine takeL (i := 12) (v := .slice (some ⟨g1, 0, none⟩) l.length c1) rfl (by kernel_rfl) (by kernel_rfl) (by kernel_rfl) (fun _ _ _ h => h) (Or.inl ⟨by rfl, ?_⟩) (by assumption) ?_
    · intro x hSx; go_simp
    try simp only [Act.put, List.setIfInBounds_toArray, List.set_cons_zero, List.set_cons_succ]
    refine wpAnyH_ready (rs := [13]) (by kernel_rfl) (by simp) ?_
    refine readyOne rfl (fun K' hK => ?_)
    go_simp
    refine (specStateOf_any l _ _ hHeld.rl.rows (by omega) HSZ.out).mono ?_
    rintro e wE ⟨vE, hsE, rfl, SE, kE⟩
    have hN := hHeld.later kE
    go_wp2_with fail
    refine hK.out _ _ hN (fun hS2 => ?_)
    clear hK K' hHeld hN
    have hHeld := hS2
    clear hS2
    try simp only [Act.put, List.setIfInBounds_toArray, List.set_cons_zero, List.set_cons_succ]
    refine wpAnyH_ready (rs := [14]) (by kernel_rfl) (by simp) ?_
    refine readyOne rfl (fun K' hK => ?_)
    go_simp
    refine (implSameState_any (stateL l) (stateL l) _ _ _ hHeld.st SE.rd HSL.out.1 HSL.out.2).mono ?_
    rintro e wF ⟨rfl, kF⟩
    rw [sameS_yes rfl]
    clear SE kE
    have hN := hHeld.later kF
    go_wp2_with fail
    refine hK.out _ _ hN (fun hS2 => ?_)
    clear hK K' hHeld hN
    have hHeld := hS2
    clear hS2
    try simp only [Act.put, List.setIfInBounds_toArray, List.set_cons_zero, List.set_cons_succ]
    clear kF
    refine takeL (i := 15) (v := .bool true) rfl (by kernel_rfl) (by kernel_rfl) (by kernel_rfl) (fun _ _ _ h => h) (Or.inl ⟨by rfl, ?_⟩) (by assumption) ?_
    · intro x hSx; go_simp
    try simp only [Act.put, List.setIfInBounds_toArray, List.set_cons_zero, List.set_cons_succ]
    refine takeL (i := 16) (v := .bool true) rfl (by kernel_rfl) (by kernel_rfl) (by kernel_rfl) (fun _ _ _ h => h) (Or.inl ⟨by rfl, ?_⟩) (by assumption) ?_
    · intro x hSx; go_simp
    try simp only [Act.put, List.setIfInBounds_toArray, List.set_cons_zero, List.set_cons_succ]
    refine takeL (i := 17) (v := .slice pm m.length cm) rfl (by kernel_rfl) (by kernel_rfl) (by kernel_rfl) (fun _ _ _ h => h) (Or.inl ⟨by rfl, ?_⟩) (by assumption) ?_
    · intro x hSx; go_simp
    try simp only [Act.put, List.setIfInBounds_toArray, List.set_cons_zero, List.set_cons_succ]
    refine wpAnyH_ready (rs := [18]) (by kernel_rfl) (by simp) ?_
    refine readyOne rfl (fun K' hK => ?_)
    go_simp
    refine (implItemsOk_any m _ _ hHeld.rm (by omega)).mono ?_
    rintro e wG ⟨rfl, kG⟩
    rw [HMO.out]
    have hN := hHeld.later kG
    go_wp2_with fail
    refine hK.out _ _ hN (fun hS2 => ?_)
    clear hK K' hHeld hN
    have hHeld := hS2
    clear hS2
    try simp only [Act.put, List.setIfInBounds_toArray, List.set_cons_zero, List.set_cons_succ]
    clear kG
    refine takeL (i := 19) (v := .bool true) rfl (by kernel_rfl) (by kernel_rfl) (by kernel_rfl) (fun _ _ _ h => h) (Or.inl ⟨by rfl, ?_⟩) (by assumption) ?_
    · intro x hSx; go_simp
    try simp only [Act.put, List.setIfInBounds_toArray, List.set_cons_zero, List.set_cons_succ]
    refine takeL (i := 20) (v := .bool true) rfl (by kernel_rfl) (by kernel_rfl) (by kernel_rfl) (fun _ _ _ h => h) (Or.inl ⟨by rfl, ?_⟩) (by assumption) ?_
    · intro x hSx; go_simp
    try simp only [Act.put, List.setIfInBounds_toArray, List.set_cons_zero, List.set_cons_succ]
    refine wpAnyH_done (by kernel_rfl) ?_ _
    have bF := Lib.hid hHeld.rl.bel
    clear hHeld H0
    go_wp2
    go_ret
    exact ⟨rfl, bF.out⟩

theorem FnAnyOrder_own : ownKnob Try.prog.godebug = none := by kernel_rfl

set_option maxRecDepth 100000 in
theorem FnAnyOrder_lifted (os : Os) (started : os.Started) (H : Type) (enc : TypeId × Value → H) :
    ReturnsInHanded {} Try.checked os 4 .any (Rows.fnAnyOrderSpec.pre6 enc Try.prog Try.f4 Rows.fnAnyOrderRow.domain false) (Rows.fnAnyOrderSpec.post enc Try.prog Try.f4 false true false false) := by
  refine returnsInHanded_of_change (C := Try.checked) FnAnyOrder_own started (by kernel_rfl) Try.func4
    (ChangeSpec.witness6 (enc := enc) (C := Try.checked) false ⟨#[], #[.slice none 0 0], []⟩ 8 (by kernel_rfl) (by kernel_rfl) (by kernel_rfl) (by kernel_rfl)) ?_
  intro W base args ds gs before hval0 hW hcnd _
  have hval : ∀ (j : Nat) t v, Try.f4.params[j]? = some t → args[j]? = some v → Value.okWide Try.prog W .any base t v := hval0
  have hW' := hW
  obtain ⟨p, q, hA0, hV, rfl, hfz, hnd⟩ := hW
  have hA : DataW.TrodAll enc Try.prog W 0 (fun _ => true) true Try.f4.params.toList args.toList ds p := hA0
  rw [Try.params4] at hA hval
  obtain ⟨v0, vs0, d0, ds0, p0, q0, hargs, rfl, rfl, h0, r0⟩ := trodAll_cons hA
  obtain ⟨rfl, rfl, rfl⟩ := trodAll_nil r0
  obtain rfl : args = #[v0] := by cases args; simp_all
  obtain ⟨rfl, rfl⟩ := trodVars_none hV
  obtain ⟨a0, len0, cap0, rfl⟩ := okWide_slice Try.underlying22 (hval 0 22 v0 rfl rfl)
  have k0 := h0
  have lt0 : ∀ x ∈ p0, x.block < W.heap.size := by obtain ⟨m, hm⟩ := k0; exact DataW.trod_lt m _ _ _ hm
  have w0 : CodeIn W a0 len0 := by
    obtain ⟨fuel, hf⟩ := h0
    rcases open_ints Try.underlying22 Try.underlying5 (by kernel_rfl) hf with ⟨hcs, _⟩ | ⟨x, l, c, zs, hcs, _, hl, hm, hz, _, hcell, hwz⟩
    · simp [Value.cells] at hcs
      obtain ⟨rfl, rfl, rfl⟩ := hcs
      intro i hi; omega
    · simp [Value.cells] at hcs
      obtain ⟨rfl, rfl, rfl⟩ := hcs
      exact codeIn_of_row hl (by simpa using hz) hcell hwz
  clear hA0 hval0
  simp only [List.append_nil] at hW'
  refine (walk_FnAnyOrder a0 len0 cap0 w0 (w := W)).mono fun e W' ⟨he, bel⟩ => ?_
  subst he
  exact ⟨_, rfl, _, _, _, [], _, [], hW', trodAll_mk1 (shut_bool Try.underlying4 _), (trodAll_cons_mk (Below.trod (show laidOutB Try.prog = true by kernel_rfl) (by kernel_rfl) (of_decide_eq_true (by kernel_rfl)) k0 bel lt0) trodAll_mk0), rfl, bel.frame _, fun h => by cases h⟩

/-- The given statement. -/
theorem fnAnyOrder_holds : Rows.FnAnyOrderSaid :=
  OpenClaim.holds_of_wide 4 Try.f4 rfl rfl rfl rfl rfl rfl rfl ⟨rfl, rfl, rfl, rfl, rfl⟩ rfl rfl rfl rfl rfl (by kernel_rfl) Try.func4 (by kernel_rfl)
    (of_decide_eq_true (by kernel_rfl)) (by unfold Func.isWrapper; first | (rw [if_pos (by decide +kernel)]; kernel_rfl) | (rw [if_neg (by decide +kernel)]; exact ⟨rfl, rfl⟩))
    (fun os started H enc _ => FnAnyOrder_lifted os started H enc)
#print axioms fnAnyOrder_holds

end Go.Proofs.Ythlbokfajiahpaa
