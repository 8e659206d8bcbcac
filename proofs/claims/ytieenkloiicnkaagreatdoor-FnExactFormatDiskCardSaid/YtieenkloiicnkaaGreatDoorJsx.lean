/- Texts of our own, joined. -/
import Derived.Test.YtieenkloiicnkaaGreatDoorJkx
import Derived.Test.YtieenkloiicnkaaGreatDoorJz
import Derived.Test.YtieenkloiicnkaaGreatDoorJqx
import Derived.Test.YtieenkloiicnkaaGreatDoorJrx
/- The log with a check of it on its disk: fixedLog of the program. -/
namespace Go.Proofs.YtieenkloiicnkaaGreatDoor
open Go.RowKit

def FlR (L : Lg) (au : Option Addr) (cu : Nat) (w : World) (e : Ending) (w' : World) : Prop :=
  Below w.heap.size w w' ∧ ((wcO L.d (ckOf L) = none ∧ ∃ k : Int, k ≠ 0 ∧ e = .returned (.tuple #[.agg #[.slice none 0 0, .slice none 0 0, .int .i64 0, .slice none 0 0, .int .i64 0, .int .i64 0, .int .i64 0, .int .i64 0], .iface 134 (.agg #[.int .i64 k])])) ∨
   ∃ (D : Dk) (p1 p2 : Option Addr) (r1 r2 : Nat), wcO L.d (ckOf L) = some D ∧ e = .returned (.tuple #[.agg #[.slice p1 D.sec.length r1, .slice p2 D.cache.length r2, .int .i64 L.segs, .slice au L.used.length cu, .int .i64 L.ng, .int .i64 L.ns, .int .i64 (ckOf L).st, .int .i64 L.nv], .nilIface]) ∧ DOwn w.heap.size w'.heap.size w' (.agg #[.slice p1 D.sec.length r1, .slice p2 D.cache.length r2]) D)

set_option maxRecDepth 100000 in
set_option maxHeartbeats 8000000 in
theorem fixedLog_any (L : Lg) (aa ab au : Option Addr) (ca cb cu B T : Nat) (hs : List SgH) (w : World) (hp : LgP B T w (.slice aa L.d.sec.length ca) (.slice ab L.d.cache.length cb) (.slice au L.used.length cu) L hs) (hok : L.d.ok) (hl : L.used.length ≤ 1048576) (ht : SumTab w) :
    Calls Tryz.prog 63 #[.agg #[.slice aa L.d.sec.length ca, .slice ab L.d.cache.length cb, .int .i64 L.segs, .slice au L.used.length cu, .int .i64 L.ng, .int .i64 L.ns, .int .i64 L.st, .int .i64 L.nv]] w fun e w' => FlR L au cu w e w' := by
  obtain ⟨hsm, hts, htu⟩ := Dk.ok_small hok
  obtain ⟨X0, X1, b0, hsz⟩ := two_boxes w #[.slice aa L.d.sec.length ca, .slice ab L.d.cache.length cb, .int .i64 L.segs, .slice au L.used.length cu, .int .i64 L.ng, .int .i64 L.ns, .int .i64 L.st, .int .i64 L.nv] #[.slice none 0 0, .slice none 0 0, .int .i64 0, .slice none 0 0, .int .i64 0, .int .i64 0, .int .i64 0, .int .i64 0] 55 55
  have HP := Lib.hid hp
  have HT : Hid (∀ x, Below w.heap.size w x → SumTab x) := fun x hx => ht.later hx
  have HCO := Lib.hid (fun x (hx : Below w.heap.size w x) => implCheckOf_any L (.agg #[.slice aa L.d.sec.length ca, .slice ab L.d.cache.length cb, .int .i64 L.segs, .slice au L.used.length cu, .int .i64 L.ng, .int .i64 L.ns, .int .i64 L.st, .int .i64 L.nv]) x ⟨_, _, _, rfl, (HP.out.later hx).down.rd, (HP.out.later hx).use.own.rd⟩ hl)
  have HRL : Hid ((ckOf L).refs.length ≤ 1048576) := by show (L.used.map _).length ≤ _; rw [List.length_map]; exact hl
  have HWC := Lib.hid (fun x (hx : Below w.heap.size w x) ac cc hr => withCheck_any L.d (ckOf L) (.agg #[.slice aa L.d.sec.length ca, .slice ab L.d.cache.length cb]) ac cc B T x (HP.out.later hx).down hsm hts htu (by have := hok.2.2.1; omega) hr HRL.out (HT.out x hx))
  have HEND : Hid (∀ e w', Below w.heap.size w w' → ((wcO L.d (ckOf L) = none ∧ ∃ k : Int, k ≠ 0 ∧ e = .returned (.tuple #[.agg #[.slice none 0 0, .slice none 0 0, .int .i64 0, .slice none 0 0, .int .i64 0, .int .i64 0, .int .i64 0, .int .i64 0], .iface 134 (.agg #[.int .i64 k])])) ∨
   ∃ (D : Dk) (p1 p2 : Option Addr) (r1 r2 : Nat), wcO L.d (ckOf L) = some D ∧ e = .returned (.tuple #[.agg #[.slice p1 D.sec.length r1, .slice p2 D.cache.length r2, .int .i64 L.segs, .slice au L.used.length cu, .int .i64 L.ng, .int .i64 L.ns, .int .i64 (ckOf L).st, .int .i64 L.nv], .nilIface]) ∧ DOwn w.heap.size w'.heap.size w' (.agg #[.slice p1 D.sec.length r1, .slice p2 D.cache.length r2]) D) → FlR L au cu w e w') := fun e w' h1 h2 => ⟨h1, h2⟩
  clear hp ht hsm hts htu hl hok
  obtain ⟨x0, x1, x2, x3, x4, x5, x6, x7⟩ := X0.eightO
  go_enter Tryz.func63, Tryz.ntmps63
  go_wp2_with fail
  clear x0 x1 x2 x3 x4 x5 x6 x7
  generalize (w.alloc (.cells #[.slice aa L.d.sec.length ca, .slice ab L.d.cache.length cb, .int .i64 L.segs, .slice au L.used.length cu, .int .i64 L.ng, .int .i64 L.ns, .int .i64 L.st, .int .i64 L.nv] 55)).alloc (.cells #[.slice none 0 0, .slice none 0 0, .int .i64 0, .slice none 0 0, .int .i64 0, .int .i64 0, .int .i64 0, .int .i64 0] 55) = W at X0 X1 b0 hsz ⊢
  refine (HCO.out _ b0).mono ?_
  rintro e w1 ⟨ac, cc, rfl, rc⟩
  have k1 := rc.bel
  have k2 := belNew w1 (.cells #[.int .i64 (ckOf L).st, .int .i64 (ckOf L).ng, .int .i64 (ckOf L).ns, .int .i64 (ckOf L).nv, .slice ac (ckOf L).refs.length cc] 48)
  have BC := Box.new w1 #[.int .i64 (ckOf L).st, .int .i64 (ckOf L).ng, .int .i64 (ckOf L).ns, .int .i64 (ckOf L).nv, .slice ac (ckOf L).refs.length cc] 48
  have j2 := k1.trans (k2.mono k1.size)
  have b2 := b0.trans (j2.mono b0.size)
  have rr := rc.rows.later k2
  replace X0 := X0.later j2
  replace X1 := X1.later j2
  have hgc : Hid (w.heap.size + 2 ≤ w1.heap.size) := by show _ ≤ _; have := k1.size; omega
  obtain ⟨x0, x1⟩ : _ ∧ _ := ⟨X0.cell 0 _ rfl, X0.cell 1 _ rfl⟩
  obtain ⟨y0, y1, y2, y3, y4⟩ := BC.fiveW
  clear rc k1 k2 j2 HCO b0 hsz
  go_upto_region 2 with fail
  generalize w1.alloc (.cells #[.int .i64 (ckOf L).st, .int .i64 (ckOf L).ng, .int .i64 (ckOf L).ns, .int .i64 (ckOf L).nv, .slice ac (ckOf L).refs.length cc] 48) = w2 at BC b2 rr X0 X1 x0 x1 y0 y1 y2 y3 y4 ⊢
  generalize w1.heap.size = gc at BC hgc y0 y1 y2 y3 y4 ⊢
  have hgc2 : Hid (gc < w2.heap.size) := BC.lt
  go_wp2_with fail
  clear x0 x1 y0 y1 y2 y3 y4
  refine (HWC.out _ b2 ac cc rr).mono ?_
  clear HWC rr
  rintro e w3 (⟨E, hE, v3, rfl, o3, k3⟩ | ⟨hN, k, hk, rfl, k3⟩)
  case inr =>
    have k4 := belNew w3 (.cells #[.slice none 0 0, .slice none 0 0] 33)
    have j4 := k3.trans (k4.mono k3.size)
    have b4 := b2.trans (j4.mono b2.size)
    replace X1 := X1.later j4
    have HN := Lib.hid hN
    clear X0 BC k3 k4 j4 b2 hN
    go_upto_region 3 with fail
    generalize w3.alloc (.cells #[.slice none 0 0, .slice none 0 0] 33) = w4 at X1 b4 ⊢
    obtain ⟨r0, r1, r2, r3, r4, r5, r6, r7, f0, f1, f2, f3, f4, f5, f6, f7⟩ := X1.eightL
    have RX := X1.set8L (.slice none 0 0) (.slice none 0 0) (.int .i64 0) (.slice none 0 0) (.int .i64 0) (.int .i64 0) (.int .i64 0) (.int .i64 0)
    have BXX := below_set8L b4 (show w.heap.size ≤ w.heap.size + 1 by omega) (.slice none 0 0) (.slice none 0 0) (.int .i64 0) (.slice none 0 0) (.int .i64 0) (.int .i64 0) (.int .i64 0) (.int .i64 0)
    obtain ⟨u0, u1, u2, u3, u4, u5, u6, u7⟩ := RX.eightO
    have HFIN := Lib.hid (HEND.out (.returned (.tuple #[.agg #[.slice none 0 0, .slice none 0 0, .int .i64 0, .slice none 0 0, .int .i64 0, .int .i64 0, .int .i64 0, .int .i64 0], .iface 134 (.agg #[.int .i64 k])])) _ BXX (.inl ⟨HN.out, k, hk, rfl⟩))
    unfold set8L at u0 u1 u2 u3 u4 u5 u6 u7 HFIN
    clear RX BXX X1 b4
    go_wp2
    refine bodyPost_ret (v := .tuple #[.agg #[.slice none 0 0, .slice none 0 0, .int .i64 0, .slice none 0 0, .int .i64 0, .int .i64 0, .int .i64 0, .int .i64 0], .iface 134 (.agg #[.int .i64 k])]) (by simp [results, Tryz.results63, go_sem, u0, u1, u2, u3, u4, u5, u6, u7]) rfl ?_
    exact HFIN.out
  obtain ⟨p1, p2, r1, r2, rfl⟩ := o3.form
  have k4 := belNew w3 (.cells #[.slice p1 E.sec.length r1, .slice p2 E.cache.length r2] 33)
  have BD := Box.new w3 #[.slice p1 E.sec.length r1, .slice p2 E.cache.length r2] 33
  have j4 := k3.trans (k4.mono k3.size)
  have b4 := b2.trans (j4.mono b2.size)
  have o4 := o3.later k4
  replace X0 := X0.later j4
  replace X1 := X1.later j4
  replace BC := BC.later j4
  have hgd : Hid (w.heap.size + 2 ≤ w2.heap.size ∧ w2.heap.size ≤ w3.heap.size) := ⟨by have := hgc2.out; have := hgc.out; omega, k3.size⟩
  have HEN := Lib.hid hE
  clear k3 k4 j4 b2 o3 hE
  obtain ⟨d0, d1⟩ : _ ∧ _ := ⟨BD.cell 0 _ rfl, BD.cell 1 _ rfl⟩
  have y0 := BC.cell 0 _ rfl
  obtain ⟨x0, x1, x2, x3, x4, x5, x6, x7, f0, f1, f2, f3, f4, f5, f6, f7⟩ := X0.eightL
  go_upto_region 5 with fail
  generalize w3.alloc (.cells #[.slice p1 E.sec.length r1, .slice p2 E.cache.length r2] 33) = w4 at BD b4 o4 X0 X1 BC d0 d1 y0 x0 x1 x2 x3 x4 x5 x6 x7 f0 f1 f2 f3 f4 f5 f6 f7 ⊢
  generalize hgdd : w3.heap.size = gd at BD hgd o4 d0 d1 ⊢
  clear hgdd
  have n1 : ¬ gd = w.heap.size := by have := hgd.out; omega
  have n2 : ¬ gc = w.heap.size := by have := hgc.out; omega
  have n3 : ¬ w.heap.size = gd := by have := hgd.out; omega
  have n4 : ¬ w.heap.size = gc := by have := hgc.out; omega
  have X5 : Box (((w4.setCell ⟨w.heap.size, 0, none⟩ (.slice p1 E.sec.length r1)).setCell ⟨w.heap.size, 1, none⟩ (.slice p2 E.cache.length r2)).setCell ⟨w.heap.size, 6, none⟩ (.int .i64 (ckOf L).st)) w.heap.size #[.slice p1 E.sec.length r1, .slice p2 E.cache.length r2, .int .i64 L.segs, .slice au L.used.length cu, .int .i64 L.ng, .int .i64 L.ns, .int .i64 (ckOf L).st, .int .i64 L.nv] 55 := ((X0.set 0 _).set 1 _).set 6 _
  have X15 : Box (((w4.setCell ⟨w.heap.size, 0, none⟩ (.slice p1 E.sec.length r1)).setCell ⟨w.heap.size, 1, none⟩ (.slice p2 E.cache.length r2)).setCell ⟨w.heap.size, 6, none⟩ (.int .i64 (ckOf L).st)) (w.heap.size + 1) #[.slice none 0 0, .slice none 0 0, .int .i64 0, .slice none 0 0, .int .i64 0, .int .i64 0, .int .i64 0, .int .i64 0] 55 := ((X1.other (by omega) _ _).other (by omega) _ _).other (by omega) _ _
  have b5 : Below w.heap.size w (((w4.setCell ⟨w.heap.size, 0, none⟩ (.slice p1 E.sec.length r1)).setCell ⟨w.heap.size, 1, none⟩ (.slice p2 E.cache.length r2)).setCell ⟨w.heap.size, 6, none⟩ (.int .i64 (ckOf L).st)) := ((b4.setCell (p := ⟨w.heap.size, 0, none⟩) (Nat.le_refl _) _).setCell (p := ⟨w.heap.size, 1, none⟩) (Nat.le_refl _) _).setCell (p := ⟨w.heap.size, 6, none⟩) (Nat.le_refl _) _
  have o5 : DOwn w2.heap.size gd (((w4.setCell ⟨w.heap.size, 0, none⟩ (.slice p1 E.sec.length r1)).setCell ⟨w.heap.size, 1, none⟩ (.slice p2 E.cache.length r2)).setCell ⟨w.heap.size, 6, none⟩ (.int .i64 (ckOf L).st)) (.agg #[.slice p1 E.sec.length r1, .slice p2 E.cache.length r2]) E := by
    have g9 : w4.grownBy (((w4.setCell ⟨w.heap.size, 0, none⟩ (.slice p1 E.sec.length r1)).setCell ⟨w.heap.size, 1, none⟩ (.slice p2 E.cache.length r2)).setCell ⟨w.heap.size, 6, none⟩ (.int .i64 (ckOf L).st)) (some w.heap.size) := grownBy_storeO (grownBy_storeO (stored_grown w4 w.heap.size 0 _) 1 _) 6 _
    exact o4.stayO g9.size (fun q h1 h2 => g9.block q (by have := BD.lt; omega) (fun e => by have := Option.some.inj e; have := hgd.out; omega))
  have HGD : Hid (gd < w4.heap.size) := BD.lt
  generalize hcs : (ckOf L).st = cs at y0 X5 X15 b5 o5 HEND BC
  clear X0 X1 BD BC o4
  go_region
  clear d0 d1 y0 x0 x1 x2 x3 x4 x5 x6 x7 f0 f1 f2 f3 f4 f5 f6 f7 b4 n1 n2 n3 n4
  replace X5 : Box (((w4.setCell ⟨w.heap.size, 0, none⟩ (.slice p1 E.sec.length r1)).setCell ⟨w.heap.size, 1, none⟩ (.slice p2 E.cache.length r2)).setCell ⟨w.heap.size, 6, none⟩ (.int .i64 cs)).drew _ _ _ := X5
  replace X15 : Box (((w4.setCell ⟨w.heap.size, 0, none⟩ (.slice p1 E.sec.length r1)).setCell ⟨w.heap.size, 1, none⟩ (.slice p2 E.cache.length r2)).setCell ⟨w.heap.size, 6, none⟩ (.int .i64 cs)).drew _ _ _ := X15
  replace b5 := b5.drew
  replace o5 := o5.later (belDrewF _)
  generalize (((w4.setCell ⟨w.heap.size, 0, none⟩ (.slice p1 E.sec.length r1)).setCell ⟨w.heap.size, 1, none⟩ (.slice p2 E.cache.length r2)).setCell ⟨w.heap.size, 6, none⟩ (.int .i64 cs)).drew = w6 at X5 X15 b5 o5 ⊢
  obtain ⟨s0, s1, s2, s3, s4, s5, s6, s7⟩ := X5.eightO
  obtain ⟨r0, r1', r2', r3, r4, r5, r6, r7, f0, f1, f2, f3, f4, f5, f6, f7⟩ := X15.eightL
  have RX := X15.set8L (.slice p1 E.sec.length r1) (.slice p2 E.cache.length r2) (.int .i64 L.segs) (.slice au L.used.length cu) (.int .i64 L.ng) (.int .i64 L.ns) (.int .i64 cs) (.int .i64 L.nv)
  have BXX := below_set8L b5 (show w.heap.size ≤ w.heap.size + 1 by omega) (.slice p1 E.sec.length r1) (.slice p2 E.cache.length r2) (.int .i64 L.segs) (.slice au L.used.length cu) (.int .i64 L.ng) (.int .i64 L.ns) (.int .i64 cs) (.int .i64 L.nv)
  obtain ⟨u0, u1, u2, u3, u4, u5, u6, u7⟩ := RX.eightO
  have HFIN : Hid (FlR L au cu w (.returned (.tuple #[.agg #[.slice p1 E.sec.length r1, .slice p2 E.cache.length r2, .int .i64 L.segs, .slice au L.used.length cu, .int .i64 L.ng, .int .i64 L.ns, .int .i64 cs, .int .i64 L.nv], .nilIface])) (set8L w6 (w.heap.size + 1) (.slice p1 E.sec.length r1) (.slice p2 E.cache.length r2) (.int .i64 L.segs) (.slice au L.used.length cu) (.int .i64 L.ng) (.int .i64 L.ns) (.int .i64 cs) (.int .i64 L.nv))) := by
    refine HEND.out _ _ BXX (.inr ⟨E, p1, p2, r1, r2, HEN.out, rfl, ?_⟩)
    have g9 := grown_set8L w6 (w.heap.size + 1) (.slice p1 E.sec.length r1) (.slice p2 E.cache.length r2) (.int .i64 L.segs) (.slice au L.used.length cu) (.int .i64 L.ng) (.int .i64 L.ns) (.int .i64 cs) (.int .i64 L.nv)
    have o6 := o5.stayO g9.size (fun q h1 h2 => g9.block q (by have := o5; have := X15.lt; exact Nat.lt_of_lt_of_le h2 (by obtain ⟨_, _, _, l1, _, _⟩ := o5; exact l1.2.1)) (fun e => by have := Option.some.inj e; have := hgd.out; omega))
    obtain ⟨qa, qb, qe, l1, l2, l3⟩ := o6
    exact ⟨qa, qb, qe, (l1.deeper (by have := hgd.out; omega)).wider l1.2.1 (Nat.le_refl _), (l2.deeper (by have := hgd.out; omega)).wider l2.2.1 (Nat.le_refl _), l3⟩
  unfold set8L at u0 u1 u2 u3 u4 u5 u6 u7 HFIN
  clear RX BXX X5 X15 b5 o5
  go_wp2
  refine bodyPost_ret (v := .tuple #[.agg #[.slice p1 E.sec.length r1, .slice p2 E.cache.length r2, .int .i64 L.segs, .slice au L.used.length cu, .int .i64 L.ng, .int .i64 L.ns, .int .i64 cs, .int .i64 L.nv], .nilIface]) (by simp [results, Tryz.results63, go_sem, u0, u1, u2, u3, u4, u5, u6, u7]) rfl ?_
  exact HFIN.out

end Go.Proofs.YtieenkloiicnkaaGreatDoor
