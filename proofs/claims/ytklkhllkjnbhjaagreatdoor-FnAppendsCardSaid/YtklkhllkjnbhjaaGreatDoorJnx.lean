/- Texts of our own, joined. -/
import Derived.Test.YtklkhllkjnbhjaaGreatDoorJmx
import Derived.Test.YtklkhllkjnbhjaaGreatDoorJd
import Derived.Test.YtklkhllkjnbhjaaGreatDoorJw
import Derived.Test.YtklkhllkjnbhjaaGreatDoorJcx
import Derived.Test.YtklkhllkjnbhjaaGreatDoorJr
import Derived.Test.YtklkhllkjnbhjaaGreatDoorJq
import Derived.Laws.StructEq
import Derived.Deep.QuietTactic
import Derived.BigQuiet
/- A log copied, and opened: the program's openedLog, copyLog. -/
namespace Go.Proofs.YtklkhllkjnbhjaaGreatDoor
open Go.RowKit
set_option maxRecDepth 100000
set_option maxHeartbeats 8000000
theorem openedLog_any (L : Lg) (B T : Nat) (va vb vu : Value) (hs : List SgH) (w : World) (hp : LgP B T w va vb vu L hs) (hL : L.lean 1048576) :
    Calls Tryz.prog 42 #[.agg #[va, vb, .int .i64 L.segs, vu, .int .i64 L.ng, .int .i64 L.ns, .int .i64 L.st, .int .i64 L.nv]] w fun e w' => ∃ (pg : Nat) (va' vb' vu' : Value) (hs' : List SgH), e = .returned (.pointer (some ⟨pg, 0, none⟩)) ∧ Box w' pg (lgC va' vb' vu' L) 104 ∧ LgP w.heap.size pg w' va' vb' vu' L hs' ∧ Below w.heap.size w w' ∧ w.heap.size ≤ pg := by
  obtain ⟨hsm, hun, _, _, _⟩ := L.lean_small hL; have b0 := belNew w (.cells #[va, vb, .int .i64 L.segs, vu, .int .i64 L.ng, .int .i64 L.ns, .int .i64 L.st, .int .i64 L.nv] 30); have X0 := Box.new w #[va, vb, .int .i64 L.segs, vu, .int .i64 L.ng, .int .i64 L.ns, .int .i64 L.st, .int .i64 L.nv] 30; have HCD : Hid (∀ X, Below w.heap.size w X → Calls Tryz.prog 71 #[.agg #[va, vb]] X fun e w' => ∃ v', e = .returned v' ∧ DOwn X.heap.size w'.heap.size w' v' L.d ∧ Below X.heap.size X w') := fun X hX => copyDisk_any L.d _ B T X (hp.later hX).down hsm (fun s hs => by have := hL.1.2.2.1 s hs; omega) (fun x hx => by have := hL.1.2.2.2 x hx; omega); have HCS : Hid (∀ X, Below w.heap.size w X → Calls Tryz.prog 72 #[vu] X fun e w' => ∃ v' hs, e = .returned v' ∧ GOwn X.heap.size w'.heap.size w' v' L.used hs ∧ Below X.heap.size X w') := fun X hX => copySegs_any L.used _ X (hp.later hX).use.own.rd hun (fun b hb => by have := gIts_mem hb; have := hL.2.1; omega) (L.lean_texts hL); obtain ⟨W, hW⟩ : ∃ W, w.alloc (.cells #[va, vb, .int .i64 L.segs, vu, .int .i64 L.ng, .int .i64 L.ns, .int .i64 L.st, .int .i64 L.nv] 30) = W := ⟨_, rfl⟩; rw [hW] at b0 X0; have HW := Lib.hid hW; obtain ⟨g0, hg0⟩ : ∃ g0, w.heap.size = g0 := ⟨_, rfl⟩; rw [hg0] at X0; have HG0 := Lib.hid hg0; have HX : Hid (∀ X, Below W.heap.size W X → (X.cell? ⟨g0, 0, none⟩ = some (va) ∧ X.cell? ⟨g0, 1, none⟩ = some (vb) ∧ X.cell? ⟨g0, 2, none⟩ = some (.int .i64 L.segs) ∧ X.cell? ⟨g0, 3, none⟩ = some (vu) ∧ X.cell? ⟨g0, 4, none⟩ = some (.int .i64 L.ng) ∧ X.cell? ⟨g0, 5, none⟩ = some (.int .i64 L.ns) ∧ X.cell? ⟨g0, 6, none⟩ = some (.int .i64 L.st) ∧ X.cell? ⟨g0, 7, none⟩ = some (.int .i64 L.nv)) ∧ Below w.heap.size w X) := fun X hX => ⟨(X0.later hX).eightO, b0.trans (hX.mono b0.size)⟩; have HBW := Lib.hid b0; obtain ⟨a1, a2, a3, c1, c2, c3, e1, e2, e3⟩ := hp.form; clear hg0 hW X0 b0 hp hL hsm hun; subst e1 e2 e3; go_enter Tryz.func42, Tryz.ntmps42
  go_upto_region 1 with fail
  rw [HW.out, HG0.out]; have kk : Below W.heap.size W W.drew := (Below.refl _ _).drew; obtain ⟨⟨x0, x1, x2, x3, x4, x5, x6, x7⟩, _⟩ := HX.out _ kk; go_region_held3 (fun X => (X.cell? ⟨g0, 0, none⟩ = some (.slice a1 L.d.sec.length c1) ∧ X.cell? ⟨g0, 1, none⟩ = some (.slice a2 L.d.cache.length c2) ∧ X.cell? ⟨g0, 2, none⟩ = some (.int .i64 L.segs) ∧ X.cell? ⟨g0, 3, none⟩ = some (.slice a3 L.used.length c3) ∧ X.cell? ⟨g0, 4, none⟩ = some (.int .i64 L.ng) ∧ X.cell? ⟨g0, 5, none⟩ = some (.int .i64 L.ns) ∧ X.cell? ⟨g0, 6, none⟩ = some (.int .i64 L.st) ∧ X.cell? ⟨g0, 7, none⟩ = some (.int .i64 L.nv)))
    (first | exact (HX.out _ kk).1 | exact (HX.out _ (kk.trans ((belNew _ _).mono kk.size))).1)
    (first
      | (go_at_call 71; refine (HCD.out _ (HX.out _ kk).2).mono ?_; rintro e wD ⟨vD, rfl, oD, kD⟩; obtain ⟨aD, bD, cD, dD, rfl⟩ := oD.form; have kk := kk.trans (kD.mono kk.size); try (have oG := oG.later kD; have tG := Nat.le_refl wD.heap.size))
      | (go_at_call 72; refine (HCS.out _ (HX.out _ kk).2).mono ?_; rintro e wG ⟨vG, hsG, rfl, oG, kG⟩; obtain ⟨aG, cG, rfl⟩ := oG.own.row.form; have kk := kk.trans (kG.mono kk.size); try (have oD := oD.later kG; have tD := Nat.le_refl wG.heap.size)))
  all_goals
    have hWs := HBW.out.size
    go_wp2
    go_ret
    first
      | exact ⟨_, _, _, _, hsG, rfl, Box.new wG _ _, (((LgP.mk2 (L := L) oD oG (Nat.le_refl _) kD.size kG.size).widen (B' := w.heap.size) hWs (Nat.le_refl _) (Nat.le_refl _)).later (belNew wG _)), (HX.out _ kk).2.trans ((belNew wG _).mono (HX.out _ kk).2.size), (HX.out _ kk).2.size⟩
      | exact ⟨_, _, _, _, hsG, rfl, Box.new wD _ _, (((LgP.mkU (L := L) oD oG kG.size (Nat.le_refl _)).widen (B' := w.heap.size) hWs (Nat.le_refl _) (Nat.le_refl _)).later (belNew wD _)), (HX.out _ kk).2.trans ((belNew wD _).mono (HX.out _ kk).2.size), (HX.out _ kk).2.size⟩
theorem copyLog_any (L : Lg) (B T : Nat) (va vb vu : Value) (hs : List SgH) (w : World) (hp : LgP B T w va vb vu L hs) (hL : L.lean 1048576) :
    Calls Tryz.prog 41 #[.agg #[va, vb, .int .i64 L.segs, vu, .int .i64 L.ng, .int .i64 L.ns, .int .i64 L.st, .int .i64 L.nv]] w fun e w' => ∃ v', e = .returned v' ∧ LgO w.heap.size w'.heap.size w' v' L ∧ Below w.heap.size w w' := by
  have b0 := belNew w (.cells #[va, vb, .int .i64 L.segs, vu, .int .i64 L.ng, .int .i64 L.ns, .int .i64 L.st, .int .i64 L.nv] 30); have X0 := Box.new w #[va, vb, .int .i64 L.segs, vu, .int .i64 L.ng, .int .i64 L.ns, .int .i64 L.st, .int .i64 L.nv] 30; have k1 := belNew (w.alloc (.cells #[va, vb, .int .i64 L.segs, vu, .int .i64 L.ng, .int .i64 L.ns, .int .i64 L.st, .int .i64 L.nv] 30)) (.cells #[.slice none 0 0, .slice none 0 0, .int .i64 0, .slice none 0 0, .int .i64 0, .int .i64 0, .int .i64 0, .int .i64 0] 30); have z0 : (w.alloc (.cells #[va, vb, .int .i64 L.segs, vu, .int .i64 L.ng, .int .i64 L.ns, .int .i64 L.st, .int .i64 L.nv] 30)).heap.size = w.heap.size + 1 := by simp
  have XR := Box.new (w.alloc (.cells #[va, vb, .int .i64 L.segs, vu, .int .i64 L.ng, .int .i64 L.ns, .int .i64 L.st, .int .i64 L.nv] 30)) #[.slice none 0 0, .slice none 0 0, .int .i64 0, .slice none 0 0, .int .i64 0, .int .i64 0, .int .i64 0, .int .i64 0] 30; rw [z0] at XR; have X1 := X0.later k1; have b2 := b0.trans (k1.mono b0.size); obtain ⟨W, hW⟩ : ∃ W, (w.alloc (.cells #[va, vb, .int .i64 L.segs, vu, .int .i64 L.ng, .int .i64 L.ns, .int .i64 L.st, .int .i64 L.nv] 30)).alloc (.cells #[.slice none 0 0, .slice none 0 0, .int .i64 0, .slice none 0 0, .int .i64 0, .int .i64 0, .int .i64 0, .int .i64 0] 30) = W := ⟨_, rfl⟩; rw [hW] at XR X1 b2; have HOL := Lib.hid (openedLog_any L B T va vb vu hs W (hp.later b2) hL); have HW := Lib.hid hW; obtain ⟨gr, hgr⟩ : ∃ gr, w.heap.size + 1 = gr := ⟨_, rfl⟩; obtain ⟨g0, hg0⟩ : ∃ g0, w.heap.size = g0 := ⟨_, rfl⟩; rw [hgr] at XR; rw [hg0] at X1; have HG : Hid (w.heap.size + 1 = gr ∧ w.heap.size = g0) := ⟨hgr, hg0⟩; have HXR := Lib.hid XR; have HB2 := Lib.hid b2; obtain ⟨a1, a2, a3, c1, c2, c3, e1, e2, e3⟩ := hp.form; subst e1 e2 e3; obtain ⟨y0, y1, y2, y3, y4, y5, y6, y7⟩ := X1.eightO; clear X0 X1 XR b0 b2 k1 z0 hW hgr hg0 hp; go_enter Tryz.func41, Tryz.ntmps41
  go_upto_region 1 with fail
  rw [HW.out, HG.out.1, HG.out.2]; go_wp2_with fail
  clear y0 y1 y2 y3 y4 y5 y6 y7; refine HOL.out.mono ?_; rintro e w1 ⟨pg, va', vb', vu', hs', rfl, XP, P1, k1, _⟩; obtain ⟨p1, p2, p3, q1, q2, q3, f1, f2, f3⟩ := P1.form; subst f1 f2 f3; unfold lgC at XP; have HCL := Lib.hid (closed_any _ _ _ _ _ _ _ _ _ _ _ _ _ _ pg w1 XP); have HP1 := Lib.hid P1; have HK1 := Lib.hid k1; clear HOL XP P1 k1; go_wp2_with fail
  refine HCL.out.mono ?_; rintro e w3 ⟨rfl, k3⟩; have XT := (HXR.out.later HK1.out).later k3; have bT := HB2.out.trans ((HK1.out.trans (k3.mono HK1.out.size)).mono HB2.out.size); have RX := XT.set8L (.slice p1 L.d.sec.length q1) (.slice p2 L.d.cache.length q2) (.int .i64 L.segs) (.slice p3 L.used.length q3) (.int .i64 L.ng) (.int .i64 L.ns) (.int .i64 L.st) (.int .i64 L.nv); have hgrw : w.heap.size ≤ gr := by have := HG.out.1; omega
  have BXX := below_set8L bT hgrw (.slice p1 L.d.sec.length q1) (.slice p2 L.d.cache.length q2) (.int .i64 L.segs) (.slice p3 L.used.length q3) (.int .i64 L.ng) (.int .i64 L.ns) (.int .i64 L.st) (.int .i64 L.nv); obtain ⟨u0, u1, u2, u3, u4, u5, u6, u7⟩ := RX.eightO; have g9 := grown_set8L w3 gr (.slice p1 L.d.sec.length q1) (.slice p2 L.d.cache.length q2) (.int .i64 L.segs) (.slice p3 L.used.length q3) (.int .i64 L.ng) (.int .i64 L.ns) (.int .i64 L.st) (.int .i64 L.nv); have hgW : gr < W.heap.size := HXR.out.lt; have P3 := HP1.out.later k3; have HL2 : Hid (LgO w.heap.size (set8L w3 gr (.slice p1 L.d.sec.length q1) (.slice p2 L.d.cache.length q2) (.int .i64 L.segs) (.slice p3 L.used.length q3) (.int .i64 L.ng) (.int .i64 L.ns) (.int .i64 L.st) (.int .i64 L.nv)).heap.size (set8L w3 gr (.slice p1 L.d.sec.length q1) (.slice p2 L.d.cache.length q2) (.int .i64 L.segs) (.slice p3 L.used.length q3) (.int .i64 L.ng) (.int .i64 L.ns) (.int .i64 L.st) (.int .i64 L.nv)) (.agg #[.slice p1 L.d.sec.length q1, .slice p2 L.d.cache.length q2, .int .i64 L.segs, .slice p3 L.used.length q3, .int .i64 L.ng, .int .i64 L.ns, .int .i64 L.st, .int .i64 L.nv]) L) := by
    have hs9 := P3.stay g9.size (fun q h1 h2 => g9.block q (Nat.lt_of_lt_of_le h2 (by have := P3.sec.2.1; omega)) (fun e => by have := Option.some.inj e; omega)); exact ⟨_, _, _, hs', rfl, hs9.widen (by have := HB2.out.size; omega) (by have := hs9.sec.2.1; omega) (Nat.le_refl _)⟩
  have HBZ := Lib.hid BXX; obtain ⟨r0, r1, r2, r3, r4, r5, r6, r7, f0, f1, f2, f3, f4, f5, f6, f7⟩ := XT.eightL; unfold set8L at u0 u1 u2 u3 u4 u5 u6 u7 HL2 HBZ; clear HCL k3 XT bT RX BXX g9 P3; go_wp2; refine bodyPost_ret (v := .agg #[.slice p1 L.d.sec.length q1, .slice p2 L.d.cache.length q2, .int .i64 L.segs, .slice p3 L.used.length q3, .int .i64 L.ng, .int .i64 L.ns, .int .i64 L.st, .int .i64 L.nv]) (by simp [results, Tryz.results41, go_sem, u0, u1, u2, u3, u4, u5, u6, u7]) rfl ?_; exact ⟨_, rfl, HL2.out, HBZ.out⟩

/- Logs held against each other: SameLog of both. -/
noncomputable def sameP (p : Prop) : Bool := @decide p (Classical.propDecidable p)
theorem sameP_yes {p : Prop} (h : p) : sameP p = true := @decide_eq_true _ (Classical.propDecidable _) h
theorem sameP_no {p : Prop} (h : ¬ p) : sameP p = false := @decide_eq_false _ (Classical.propDecidable _) h
theorem sameP_congr {p q : Prop} (h : p ↔ q) : sameP p = sameP q := by
  by_cases c : p
  · rw [sameP_yes c, sameP_yes (h.1 c)]
  · rw [sameP_no c, sameP_no (fun e => c (h.2 e))]
theorem listL_all {α : Type} {ms ns : List α} (hl : ms.length = ns.length) (h : ∀ (k : Nat) (x y : α), ms[k]? = some x → ns[k]? = some y → x = y) : ms = ns :=
  List.ext_getElem? fun i => by
    by_cases c : i < ms.length
    · have e1 : ms[i]? = some ms[i] := List.getElem?_eq_getElem c
      have e2 : ns[i]? = some (ns[i]'(by omega)) := List.getElem?_eq_getElem (by omega)
      rw [e1, e2, h i _ _ e1 e2]
    · rw [List.getElem?_eq_none (by omega), List.getElem?_eq_none (by omega)]
theorem ba_sameL (a b : ByteArray) : a.toList = b.toList ↔ a = b := by
  have h := ba_beq a b; constructor
  · intro e
    rw [beq_iff_eq.2 e] at h; exact of_decide_eq_true h.symm
  · intro e; rw [e]
theorem item_fieldsL : Tryz.prog.underlying 44 = some (.struct (Tryz.prog.fieldsOf 44)) := by kernel_rfl
theorem rec_fieldsL : Tryz.prog.underlying 33 = some (.struct (Tryz.prog.fieldsOf 33)) := by kernel_rfl
theorem run_recL (x y : Rc) (w : World) : (Op.equalIn 9999 33 (.agg #[.int .i64 x.kind, .int .i64 x.valid, .int .i64 x.uid, .int .i64 x.next, .int .i64 x.flags, .string x.user, .string x.name, .string x.text]) (.agg #[.int .i64 y.kind, .int .i64 y.valid, .int .i64 y.uid, .int .i64 y.next, .int .i64 y.flags, .string y.user, .string y.name, .string y.text])).run Tryz.prog w = .ok (sameP (x = y)) w := by
  rw [run_equalIn_agg _ 9998 _ _ _ rec_fieldsL (by kernel_rfl)]; obtain ⟨a0, a1, a2, a3, a4, a5, a6, a7⟩ := x; obtain ⟨b0, b1, b2, b3, b4, b5, b6, b7⟩ := y; simp [go_sem, Op.eqFields, Tryz.underlying33, Program.fieldsOf]; simp only [ba_sameL]; by_cases h0 : a0 = b0
  case neg => rw [if_neg h0, sameP_no (fun e => h0 e.1)]
  rw [if_pos h0]; by_cases h1 : a1 = b1
  case neg => rw [if_neg h1, sameP_no (fun e => h1 e.2.1)]
  rw [if_pos h1]; by_cases h2 : a2 = b2
  case neg => rw [if_neg h2, sameP_no (fun e => h2 e.2.2.1)]
  rw [if_pos h2]; by_cases h3 : a3 = b3
  case neg => rw [if_neg h3, sameP_no (fun e => h3 e.2.2.2.1)]
  rw [if_pos h3]; by_cases h4 : a4 = b4
  case neg => rw [if_neg h4, sameP_no (fun e => h4 e.2.2.2.2.1)]
  rw [if_pos h4]; by_cases h5 : a5 = b5
  case neg => rw [if_neg h5, sameP_no (fun e => h5 e.2.2.2.2.2.1)]
  rw [if_pos h5]; by_cases h6 : a6 = b6
  case neg => rw [if_neg h6, sameP_no (fun e => h6 e.2.2.2.2.2.2.1)]
  rw [if_pos h6]; by_cases h7 : a7 = b7
  case neg => rw [if_neg h7, sameP_no (fun e => h7 e.2.2.2.2.2.2.2)]
  rw [if_pos h7, sameP_yes ⟨h0, h1, h2, h3, h4, h5, h6, h7⟩]
theorem run_itemL (x y : Itm) (w : World) : (binOp .neq 44 (.agg #[.int .i64 x.1, .int .i64 x.2.kind, .int .i64 x.2.valid, .int .i64 x.2.uid, .int .i64 x.2.next, .int .i64 x.2.flags, .string x.2.user, .string x.2.name, .string x.2.text]) (.agg #[.int .i64 y.1, .int .i64 y.2.kind, .int .i64 y.2.valid, .int .i64 y.2.uid, .int .i64 y.2.next, .int .i64 y.2.flags, .string y.2.user, .string y.2.name, .string y.2.text])).run Tryz.prog w = .ok (.bool (!sameP (x = y))) w := by
  have h := run_recL x.2 y.2; have h1 : (Op.equalIn 10000 44 (.agg #[.int .i64 x.1, .int .i64 x.2.kind, .int .i64 x.2.valid, .int .i64 x.2.uid, .int .i64 x.2.next, .int .i64 x.2.flags, .string x.2.user, .string x.2.name, .string x.2.text]) (.agg #[.int .i64 y.1, .int .i64 y.2.kind, .int .i64 y.2.valid, .int .i64 y.2.uid, .int .i64 y.2.next, .int .i64 y.2.flags, .string y.2.user, .string y.2.name, .string y.2.text])).run Tryz.prog w = .ok (sameP (x = y)) w := by
    rw [run_equalIn_agg _ 9999 _ _ _ item_fieldsL (by kernel_rfl)]; by_cases h0 : x.1 = y.1
    · have e : sameP (x = y) = sameP (x.2 = y.2) := sameP_congr ⟨fun e => by rw [e], fun e => by obtain ⟨a, b⟩ := x; obtain ⟨c, d⟩ := y; simp only at h0 e; rw [h0, e]⟩
      rw [e]; generalize sameP (x.2 = y.2) = D at h ⊢; simp [go_sem, Op.eqFields, Tryz.underlying44, Program.fieldsOf, h, h0]; try (cases D <;> rfl)
    · rw [sameP_no (fun e => h0 (by rw [e]))]
      simp [go_sem, Op.eqFields, Tryz.underlying44, Program.fieldsOf, h0]
  rw [run_neq_struct, h1]; rfl
theorem specSameSeg_any (x y : Sg) (a1 a2 : Option Addr) (n1 n2 c1 c2 : Nat) (w : World) (ha : Rows' itE w (.slice a1 n1 c1) x.items) (hb : Rows' itE w (.slice a2 n2 c2) y.items) (hl : x.items.length ≤ 1099511627776) :
    Calls Tryz.prog 29 #[.agg #[.int .i64 x.no, .int .i64 x.gen, .int .i64 x.ende, .slice a1 n1 c1], .agg #[.int .i64 y.no, .int .i64 y.gen, .int .i64 y.ende, .slice a2 n2 c2]] w fun e w' => e = .returned (.bool (sameP (x = y))) ∧ Below w.heap.size w w' := by
  obtain ⟨ad, cap, e, hrowa⟩ := ha.items; cases e
  obtain ⟨ad2, cap2, e, hrowb⟩ := hb.items; cases e
  have HA := Lib.hid hrowa; have HB := Lib.hid hrowb; clear ha hb hrowa hrowb; obtain ⟨V, G, E, ms⟩ := x; obtain ⟨V', G', E', ms'⟩ := y; simp only at HA HB hl ⊢; obtain ⟨D, hD⟩ : ∃ D, sameP ((⟨V, G, E, ms⟩ : Sg) = ⟨V', G', E', ms'⟩) = D := ⟨_, rfl⟩; have HD := Lib.hid hD; rw [hD]; clear hD; by_cases e3 : ms.length = ms'.length
  case neg =>
    have e3' : ¬ ((ms.length : Int) = (ms'.length : Int)) := by omega
    have HE : Hid (D = false) := by show D = false; rw [← HD.out]; exact sameP_no (fun e => e3 (by rw [(Sg.mk.inj e).2.2.2]))
    have b1 : Below w.heap.size w ((w.alloc (.cells #[.int .i64 V, .int .i64 G, .int .i64 E, .slice a1 ms.length c1] 60)).alloc (.cells #[.int .i64 V', .int .i64 G', .int .i64 E', .slice a2 ms'.length c2] 60)) := ((Below.refl _ _).alloc (Nat.le_refl _) _).alloc (by simp) _; clear e3; by_cases e0 : V = V'
    case neg =>
      go_enter Tryz.func29, Tryz.ntmps29
      go_wp2; go_ret; exact ⟨by rw [HE.out]; rfl, b1⟩
    subst e0; by_cases e1 : G = G'
    case neg =>
      go_enter Tryz.func29, Tryz.ntmps29
      go_wp2; go_ret; exact ⟨by rw [HE.out]; rfl, b1⟩
    subst e1; by_cases e2 : E = E'
    case neg =>
      go_enter Tryz.func29, Tryz.ntmps29
      go_wp2; go_ret; exact ⟨by rw [HE.out]; rfl, b1⟩
    subst e2; go_enter Tryz.func29, Tryz.ntmps29
    go_wp2; go_ret; exact ⟨by rw [HE.out]; rfl, b1⟩
  obtain ⟨n, hn⟩ : ∃ n, ms.length = n := ⟨_, rfl⟩; have hm : ms'.length = n := by omega
  have HN := Lib.hid hn; have HM := Lib.hid hm; rw [hn] at hl; rw [hn, hm]; clear hn hm e3; have b1 : Below w.heap.size w ((w.alloc (.cells #[.int .i64 V, .int .i64 G, .int .i64 E, .slice a1 n c1] 60)).alloc (.cells #[.int .i64 V', .int .i64 G', .int .i64 E', .slice a2 n c2] 60)) := ((Below.refl _ _).alloc (Nat.le_refl _) _).alloc (by simp) _; by_cases e0 : V = V'
  case neg =>
    go_enter Tryz.func29, Tryz.ntmps29
    go_wp2; go_ret; exact ⟨by rw [← HD.out, sameP_no (fun e => e0 (Sg.mk.inj e).1)]; rfl, b1⟩
  subst e0; by_cases e1 : G = G'
  case neg =>
    go_enter Tryz.func29, Tryz.ntmps29
    go_wp2; go_ret; exact ⟨by rw [← HD.out, sameP_no (fun e => e1 (Sg.mk.inj e).2.1)]; rfl, b1⟩
  subst e1; by_cases e2 : E = E'
  case neg =>
    go_enter Tryz.func29, Tryz.ntmps29
    go_wp2; go_ret; exact ⟨by rw [← HD.out, sameP_no (fun e => e2 (Sg.mk.inj e).2.2.1)]; rfl, b1⟩
  subst e2; have X2 := (Box.new w #[.int .i64 V, .int .i64 G, .int .i64 E, .slice a1 n c1] 60).later (belNew _ (.cells #[.int .i64 V, .int .i64 G, .int .i64 E, .slice a2 n c2] 60)); have X3 : Box ((w.alloc (.cells #[.int .i64 V, .int .i64 G, .int .i64 E, .slice a1 n c1] 60)).alloc (.cells #[.int .i64 V, .int .i64 G, .int .i64 E, .slice a2 n c2] 60)) (w.heap.size + 1) #[.int .i64 V, .int .i64 G, .int .i64 E, .slice a2 n c2] 60 := by
    have := Box.new (w.alloc (.cells #[.int .i64 V, .int .i64 G, .int .i64 E, .slice a1 n c1] 60)) #[.int .i64 V, .int .i64 G, .int .i64 E, .slice a2 n c2] 60; rwa [show (w.alloc (.cells #[.int .i64 V, .int .i64 G, .int .i64 E, .slice a1 n c1] 60)).heap.size = w.heap.size + 1 from by simp] at this
  go_enter Tryz.func29, Tryz.ntmps29
  go_wp2; generalize (w.alloc (.cells #[.int .i64 V, .int .i64 G, .int .i64 E, .slice a1 n c1] 60)).alloc (.cells #[.int .i64 V, .int .i64 G, .int .i64 E, .slice a2 n c2] 60) = w1 at b1 X2 X3 ⊢; have BW := Lib.hid b1; clear b1; generalize w.heap.size + 1 = g3 at X3 ⊢; generalize hg2 : w.heap.size = g2 at X2 ⊢; clear hg2; go_loopw [5] (fun iv wr => ∃ i : Nat, i ≤ n ∧ iv = .int .i64 (i : Int) ∧ (∀ (j : Nat) (x y : Itm), ms[j]? = some x → ms'[j]? = some y → j < i → x = y) ∧ Below w1.heap.size w1 wr) (fun iv _ => n - (intOf iv).toNat)
  case atStart => exact ⟨0, by omega, rfl, fun j x y _ _ hj => by omega, Below.refl _ _⟩
  case round =>
    obtain ⟨i, hi, rfl, hU, hb⟩ := hrel; have HU := Lib.hid hU; clear hU; have Y2 : wr.cell? ⟨g2, 3, none⟩ = some (.slice a1 n c1) := (X2.later hb).cell 3 _ rfl; have Y3 : wr.cell? ⟨g3, 3, none⟩ = some (.slice a2 n c2) := (X3.later hb).cell 3 _ rfl; by_cases hlt : i < n
    · obtain ⟨x, hgx⟩ : ∃ x, ms[i]? = some x := ⟨_, List.getElem?_eq_getElem (by rw [HN.out]; exact hlt)⟩
      obtain ⟨y, hgy⟩ : ∃ y, ms'[i]? = some y := ⟨_, List.getElem?_eq_getElem (by rw [HM.out]; exact hlt)⟩; have bW : Below w.heap.size w wr := BW.out.trans (hb.mono BW.out.size); obtain ⟨ga, oa, rfl, p0, p1, p2, p3, p4, p5, p6, p7, p8⟩ := HA.out _ bW i _ hgx; obtain ⟨gb, ob, rfl, q0, q1, q2, q3, q4, q5, q6, q7, q8⟩ := HB.out _ bW i _ hgy; have HX := Lib.hid hgx; have HY := Lib.hid hgy; clear hgx hgy bW; have hi0 : (0 : Int) ≤ (i : Int) := (by omega); have hi1 : (i : Int) < (n : Int) := (by omega); have hneq := run_itemL x y; by_cases hxy : x = y
      · have HXY := Lib.hid hxy
        rw [sameP_yes hxy] at hneq; simp only [Bool.not_true] at hneq; clear hxy; go_wp2; go_quiet (fail)
        go_wp2; go_roundw
        case rel => exact ⟨i + 1, by omega, by go_num, fun j u v h1 h2 hj => by
          by_cases c : j = i
          · subst c
            have e1 := HX.out; have e2 := HY.out; rw [h1] at e1; rw [h2] at e2; cases e1; cases e2; exact HXY.out
          · exact HU.out j u v h1 h2 (by omega), hb.trans ⟨rfl, rfl, rfl, Nat.le_refl _, fun _ _ => rfl⟩⟩
        case measure => simp [intOf]; omega
      · rw [sameP_no hxy] at hneq
        simp only [Bool.not_false] at hneq; have HE : Hid (D = false) := by
          show D = false
          rw [← HD.out]; exact sameP_no (fun e => hxy (by
            have e4 := (Sg.mk.inj e).2.2.2; have e1 := HX.out; rw [e4, HY.out] at e1; exact (Option.some.inj e1).symm))
        clear hxy; go_wp2; go_quiet (fail)
        go_wp2; go_ret; exact ⟨by rw [HE.out]; rfl, (BW.out.trans (hb.mono BW.out.size)).trans ⟨rfl, rfl, rfl, by have := BW.out.size; have := hb.size; exact Nat.le_refl _, fun _ _ => rfl⟩⟩
    · have HE : Hid (D = true) := by
        show D = true
        rw [← HD.out]; have e4 : ms = ms' := listL_all (HN.out.trans HM.out.symm) (fun j x y h1 h2 => HU.out j x y h1 h2 (by have := (List.getElem?_eq_some_iff.1 h1).1; have := HN.out; omega)); exact sameP_yes (by rw [e4])
      go_wp2; go_ret; exact ⟨by rw [HE.out]; rfl, BW.out.trans (hb.mono BW.out.size)⟩
end Go.Proofs.YtklkhllkjnbhjaaGreatDoor
