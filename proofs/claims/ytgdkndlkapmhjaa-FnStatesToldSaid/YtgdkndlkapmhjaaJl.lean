/- Texts of our own, joined. -/
import Derived.Test.YtgdkndlkapmhjaaJk
import Derived.Test.YtgdkndlkapmhjaaJh
import Derived.Test.YtgdkndlkapmhjaaJe
import Derived.Test.YtgdkndlkapmhjaaJf
import Derived.Test.YtgdkndlkapmhjaaJd
import Derived.Test.YtgdkndlkapmhjaaJa
import Derived.Maps.RangeWalk
import Derived.Maps.OwnSet
/- The draws of the chapter on what records tell. -/
namespace Go.Proofs.Ytgdkndlkapmhjaa
open Go.RowKit

set_option maxRecDepth 100000 in
set_option maxHeartbeats 1000000 in
theorem drawStateOf_any (a : Option Addr) (len cap : Nat) (w : World) (hcode : CodeIn w a len) (hs : len ≤ 1048576) :
    Calls Try.prog 5 #[.slice a len cap] w fun e w' => ∃ (l : List Itm) (v : Value), ItsA 300 l ∧ e = .returned v ∧ Rows' itE w' v l ∧ Below w.heap.size w w' := by
  go_enter Try.func5, Try.ntmps5
  go_wp2_with fail
  refine (new_any a len cap _ hcode hs).mono ?_
  rintro e w1 ⟨pc, hp, rfl, hc1, hb1⟩
  have D1 : Drw w pc a len cap w1 := ⟨hc1, hb1, hp⟩
  clear hc1 hb1
  go_wp2_with fail
  refine (itemsAny_any pc a len cap _ D1.cur).mono ?_
  rintro e w2 ⟨l, v, hl, rfl, R2, hc2, hg2⟩
  have D2 := D1.step hc2 hg2
  have HL := Lib.hid hl
  have H2 := Lib.hid R2.rows
  obtain ⟨av, cv, rfl⟩ := R2.form
  clear hl hc2 hg2 D1 R2
  go_wp2
  go_ret
  first | exact ⟨l, _, HL.out, rfl, H2.out, D2.bel⟩ | exact ⟨l, HL.out, _, rfl, H2.out, D2.bel⟩

def StOneR (w : World) (e : Ending) (w' : World) : Prop := ∃ (bs : List Bx) (v : Value), StD bs ∧ e = .returned (.agg #[v]) ∧ BRd w' v bs ∧ Below w.heap.size w w'
set_option maxRecDepth 100000 in
set_option maxHeartbeats 1000000 in
theorem drawStateOk_any (a : Option Addr) (len cap : Nat) (w : World) (hcode : CodeIn w a len) (hs : len ≤ 1048576) :
    Calls Try.prog 7 #[.slice a len cap] w fun e w' => StOneR w e w' := by
  have hx := Box.new w #[.slice none 0 0] 28
  have b0 := belNew w (.cells #[.slice none 0 0] 28)
  have hz0 : w.heap.size < (w.alloc (.cells #[.slice none 0 0] 28)).heap.size := by simp
  have HCD := Lib.hid (hcode.later b0)
  clear hcode
  go_enter Try.func7, Try.ntmps7
  go_wp2_with fail
  generalize w.alloc (.cells #[.slice none 0 0] 28) = W at hx b0 hz0 HCD ⊢
  refine (new_any a len cap _ HCD.out hs).mono ?_
  rintro e w1 ⟨pc, hp, rfl, hc1, hb1⟩
  have D1 : Drw W pc a len cap w1 := ⟨hc1, hb1, hp⟩
  have hz1 := hb1.size
  clear hc1 hb1
  go_wp2_with fail
  refine (stateDrawn_any pc a len cap _ D1.cur).mono ?_
  rintro e w2 ⟨bs, v, hD, rfl, RC, R2, hc2, hg2⟩
  have D2 := D1.step hc2 hg2
  have x2 := hx.later D2.bel
  have b2 := b0.trans (D2.bel.mono b0.size)
  obtain ⟨av, cv, rfl, _⟩ := R2.boxes
  have d1 := x2.cell 0 _ rfl
  have d2 := x2.loose 0
  have z0 := (x2.set 0 (.slice av bs.length cv)).cell 0 _ rfl
  have HD := Lib.hid hD
  have HR := Lib.hid (RC (w2.setCell ⟨w.heap.size, 0, none⟩ (.slice av bs.length cv)) (by simp) (fun k h1 h2 => (stored_grown w2 w.heap.size 0 (.slice av bs.length cv)).block k h2 (fun e => by have := Option.some.inj e; omega)))
  have HB := Lib.hid (b2.setCell (p := ⟨w.heap.size, 0, none⟩) (Nat.le_refl _) (.slice av bs.length cv))
  clear hD RC R2 hc2 hg2 D1 D2 x2 b2 hx b0
  go_wp2
  refine bodyPost_ret (v := .agg #[.slice av bs.length cv]) (by simp [results, Try.results7, go_sem, z0]) rfl ?_
  exact ⟨bs, _, HD.out, rfl, HR.out, HB.out⟩

theorem close2 {X : World} {r s m : Nat} {u v : Value} (hr : r < m) (hs : s < m) : X.heap.size ≤ ((X.setCell ⟨r, 0, none⟩ u).setCell ⟨s, 0, none⟩ v).heap.size ∧ ∀ k, m ≤ k → k < X.heap.size → ((X.setCell ⟨r, 0, none⟩ u).setCell ⟨s, 0, none⟩ v).heap[k]? = X.heap[k]? := by
  refine ⟨by simp, fun k h1 h2 => ?_⟩
  have e1 := (stored_grown X r 0 u).block k h2 (fun e => by have := Option.some.inj e; omega)
  have e2 := (stored_grown (X.setCell ⟨r, 0, none⟩ u) s 0 v).block k (by simpa using h2) (fun e => by have := Option.some.inj e; omega)
  exact e2.trans e1
def StTwoR (w : World) (e : Ending) (w' : World) : Prop := ∃ (ps bs : List Bx) (v u : Value), StD ps ∧ StD bs ∧ e = .returned (.tuple #[.agg #[v], .agg #[u]]) ∧ BRd w' v ps ∧ BRd w' u bs ∧ Below w.heap.size w w'

set_option maxRecDepth 100000 in
set_option maxHeartbeats 4000000 in
theorem drawSameState_any (a : Option Addr) (len cap : Nat) (w : World) (hcode : CodeIn w a len) (hs : len ≤ 1048576) :
    Calls Try.prog 6 #[.slice a len cap] w fun e w' => StTwoR w e w' := by
  have hx := Box.new w #[.slice none 0 0] 28
  have hy := Box.new (w.alloc (.cells #[.slice none 0 0] 28)) #[.slice none 0 0] 28
  have b0 := belNew w (.cells #[.slice none 0 0] 28)
  have k0 := belNew (w.alloc (.cells #[.slice none 0 0] 28)) (.cells #[.slice none 0 0] 28)
  replace hx := hx.later k0
  have b1 := b0.trans (k0.mono b0.size)
  rw [show (w.alloc (.cells #[.slice none 0 0] 28)).heap.size = w.heap.size + 1 by simp] at hy
  have hz0 : w.heap.size + 1 < ((w.alloc (.cells #[.slice none 0 0] 28)).alloc (.cells #[.slice none 0 0] 28)).heap.size := by simp
  have HCD := Lib.hid (hcode.later b1)
  clear hcode b0 k0
  go_enter Try.func6, Try.ntmps6
  go_wp2_with fail
  generalize (w.alloc (.cells #[.slice none 0 0] 28)).alloc (.cells #[.slice none 0 0] 28) = W at hx hy b1 hz0 HCD ⊢
  refine (new_any a len cap _ HCD.out hs).mono ?_
  rintro e w1 ⟨pc, hp, rfl, hc1, hb1⟩
  have D1 : Drw W pc a len cap w1 := ⟨hc1, hb1, hp⟩
  have hz1 := hb1.size
  clear hc1 hb1
  go_wp2_with fail
  refine (items_any pc a len cap _ D1.cur).mono ?_
  rintro e w2 ⟨l, v2, hD, rfl, R2, _, hc2, hg2⟩
  have D2 := D1.step hc2 hg2
  have hpc1 := D1.cur.lt
  have hz2 := hg2.size
  obtain ⟨a2, c2, rfl⟩ := R2.form
  have HD := Lib.hid hD
  have hl23 := hD.2.1
  have HSZ : Hid (∀ y ∈ l, y.2.user.size ≤ 1099511627776 ∧ y.2.name.size ≤ 1099511627776 ∧ y.2.text.size ≤ 1099511627776) := fun y hy => by have := HD.out.2.2.1 y hy; unfold Rc.slim at this; omega
  clear hD hc2 hg2 D1
  go_wp2_with fail
  refine (specStateOf_any l _ _ R2.rows (by omega) HSZ.out).mono ?_
  rintro e w3 ⟨bv, hsA, rfl, SA, k3⟩
  obtain ⟨a3, c3, rfl⟩ := SA.row.form
  have XA := Box.new w3 #[.slice a3 hsA.length c3] 28
  have kA := belNew w3 (.cells #[.slice a3 hsA.length c3] 28)
  have hz3 := k3.size
  have SA4 := SA.later kA
  have D4 := (D2.later k3).later kA
  have R4 := (R2.later k3).later kA
  have hzA : w3.heap.size < (w3.alloc (.cells #[.slice a3 hsA.length c3] 28)).heap.size := by simp
  clear SA k3 kA D2 R2
  go_upto_region 4 with fail
  generalize w3.alloc (.cells #[.slice a3 hsA.length c3] 28) = w4 at XA SA4 D4 R4 hzA ⊢
  generalize w3.heap.size = gA at XA hz3 hzA ⊢
  go_wp2_with fail
  refine (once_any 2 pc a len cap _ D4.cur (by omega)).mono ?_
  rintro e w5 ⟨he, hc5, hg5⟩
  have D5 := D4.step hc5 hg5
  have hx5 := hx.later D5.bel
  have hy5 := hy.later D5.bel
  have b5 := b1.trans (D5.bel.mono b1.size)
  have XA5 := XA.cur hg5 (by omega)
  have W4 := SA4.where'
  have SA5 := SA4.shift hg5 (fun k hk => by
    have hk' : pc = k := Option.some.inj hk
    exact ⟨fun e => by have := (W4.1 k e).1; omega, fun j y hj e => by have := (W4.2 j y hj k e).1; omega⟩)
  have R5 := R4.here.cursor hg5 hpc1
  have HSD := Lib.hid (StD.of_its HD.out)
  have kd : Below w5.heap.size w5 w5.drew := (Below.refl _ _).drew
  have e5 := XA5.cell 0 _ rfl
  have hz5 := hg5.size
  clear D4 hg5 hc5 XA SA4 R4 W4
  rcases he with rfl | rfl
  · go_upto_region 5 with fail
    go_region_law (first
      | (go_simp; go_at_call 12; refine (specStateOf_any l _ _ (R5.rows.later kd) (by omega) HSZ.out).mono ?_; rintro e w6 ⟨bvB, hsB, rfl, SB, k6⟩; obtain ⟨aB, cB, rfl⟩ := SB.row.form; have k56 := kd.trans k6; have hx6 := hx5.later k56; have hy6 := hy5.later k56; have b6 := b5.trans (k56.mono b5.size); have e6 := (XA5.later k56).cell 0 _ rfl; have HA := st_close (m := W.heap.size) (SA5.later k56) (by omega); have HB := st_close (m := W.heap.size) SB (by show _ < w5.heap.size; omega); have x0 := hx6.cell 0 _ rfl; have x1 := hx6.loose 0; have y0 := hy6.cell 0 _ rfl; have y1 := hy6.loose 0; have hy7 : Box (w6.setCell ⟨w.heap.size, 0, none⟩ (.slice a3 hsA.length c3)) (w.heap.size + 1) #[.slice none 0 0] 28 := hy6.other (by omega) 0 _; have hx7 : Box (w6.setCell ⟨w.heap.size + 1, 0, none⟩ (.slice aB hsB.length cB)) w.heap.size #[.slice none 0 0] 28 := hx6.other (by omega) 0 _; have z0 := ((hx6.set 0 (.slice a3 hsA.length c3)).other (g := w.heap.size + 1) (by simp) 0 (.slice aB hsB.length cB)).cell 0 (.slice a3 hsA.length c3) rfl; have z1 := (hy7.set 0 (.slice aB hsB.length cB)).cell 0 (.slice aB hsB.length cB) rfl; have z2 := (hx7.set 0 (.slice a3 hsA.length c3)).cell 0 (.slice a3 hsA.length c3) rfl; have z3 := ((hy6.set 0 (.slice aB hsB.length cB)).other (g := w.heap.size) (by simp) 0 (.slice a3 hsA.length c3)).cell 0 (.slice aB hsB.length cB) rfl; have C1 := close2 (X := w6) (r := w.heap.size) (s := w.heap.size + 1) (m := W.heap.size) (u := .slice a3 hsA.length c3) (v := .slice aB hsB.length cB) (by omega) hz0; have C2 := close2 (X := w6) (r := w.heap.size + 1) (s := w.heap.size) (m := W.heap.size) (u := .slice aB hsB.length cB) (v := .slice a3 hsA.length c3) hz0 (by omega); have H1 : Hid (StTwoR w (.returned (.tuple #[.agg #[.slice a3 hsA.length c3], .agg #[.slice aB hsB.length cB]])) ((w6.setCell ⟨w.heap.size, 0, none⟩ (.slice a3 hsA.length c3)).setCell ⟨w.heap.size + 1, 0, none⟩ (.slice aB hsB.length cB))) := ⟨(stateL l), (stateL l), _, _, HSD.out, HSD.out, rfl, HA _ C1.1 C1.2, HB _ C1.1 C1.2, (b6.setCell (p := ⟨w.heap.size, 0, none⟩) (Nat.le_refl _) _).setCell (p := ⟨w.heap.size + 1, 0, none⟩) (by simp) _⟩; have H2 : Hid (StTwoR w (.returned (.tuple #[.agg #[.slice a3 hsA.length c3], .agg #[.slice aB hsB.length cB]])) ((w6.setCell ⟨w.heap.size + 1, 0, none⟩ (.slice aB hsB.length cB)).setCell ⟨w.heap.size, 0, none⟩ (.slice a3 hsA.length c3))) := ⟨(stateL l), (stateL l), _, _, HSD.out, HSD.out, rfl, HA _ C2.1 C2.2, HB _ C2.1 C2.2, (b6.setCell (p := ⟨w.heap.size + 1, 0, none⟩) (by simp) _).setCell (p := ⟨w.heap.size, 0, none⟩) (Nat.le_refl _) _⟩; clear HA HB C1 C2 hx7 hy7 hx6 hy6 b6 SB k6 k56; dsimp only))
    all_goals
      go_wp2
      first
        | (refine bodyPost_ret (v := .tuple #[.agg #[.slice a3 hsA.length c3], .agg #[.slice aB hsB.length cB]]) (by simp [results, Try.results6, go_sem, z0, z1]) rfl ?_; exact H1.out)
        | (refine bodyPost_ret (v := .tuple #[.agg #[.slice a3 hsA.length c3], .agg #[.slice aB hsB.length cB]]) (by simp [results, Try.results6, go_sem, z2, z3]) rfl ?_; exact H2.out)
  · have DD := D5.later kd
    have XD := XA5.later kd
    have SD := SA5.later kd
    have WD := SD.where'
    go_upto_region 6 with fail
    go_region_law (first
      | (go_simp; go_at_call 21; refine (stateDrawn_any pc a len cap _ DD.cur).mono ?_; rintro e w6 ⟨bsB, vB, hDB, rfl, RC, RB, hc6, hg6⟩; obtain ⟨aB, cB, rfl, _⟩ := RB.boxes; have D6 := DD.step hc6 hg6; have hx6 := hx.later D6.bel; have hy6 := hy.later D6.bel; have b6 := b1.trans (D6.bel.mono b1.size); have e6 := (XD.cur hg6 (by omega)).cell 0 _ rfl; have SC := SD.shift hg6 (fun k hk => ⟨fun e => by have h8 : pc = k := Option.some.inj hk; have := (WD.1 k e).1; omega, fun j y hj e => by have h8 : pc = k := Option.some.inj hk; have := (WD.2 j y hj k e).1; omega⟩); have HA := st_close (m := W.heap.size) SC (by omega); have HB : ∀ Y : World, w6.heap.size ≤ Y.heap.size → (∀ k, W.heap.size ≤ k → k < w6.heap.size → Y.heap[k]? = w6.heap[k]?) → BRd Y (.slice aB bsB.length cB) bsB := (fun Y h1 h2 => RC Y h1 (fun k h3 h4 => h2 k (by have h5 : w5.heap.size ≤ k := h3; omega) h4)); have x0 := hx6.cell 0 _ rfl; have x1 := hx6.loose 0; have y0 := hy6.cell 0 _ rfl; have y1 := hy6.loose 0; have hy7 : Box (w6.setCell ⟨w.heap.size, 0, none⟩ (.slice a3 hsA.length c3)) (w.heap.size + 1) #[.slice none 0 0] 28 := hy6.other (by omega) 0 _; have hx7 : Box (w6.setCell ⟨w.heap.size + 1, 0, none⟩ (.slice aB bsB.length cB)) w.heap.size #[.slice none 0 0] 28 := hx6.other (by omega) 0 _; have z0 := ((hx6.set 0 (.slice a3 hsA.length c3)).other (g := w.heap.size + 1) (by simp) 0 (.slice aB bsB.length cB)).cell 0 (.slice a3 hsA.length c3) rfl; have z1 := (hy7.set 0 (.slice aB bsB.length cB)).cell 0 (.slice aB bsB.length cB) rfl; have z2 := (hx7.set 0 (.slice a3 hsA.length c3)).cell 0 (.slice a3 hsA.length c3) rfl; have z3 := ((hy6.set 0 (.slice aB bsB.length cB)).other (g := w.heap.size) (by simp) 0 (.slice a3 hsA.length c3)).cell 0 (.slice aB bsB.length cB) rfl; have C1 := close2 (X := w6) (r := w.heap.size) (s := w.heap.size + 1) (m := W.heap.size) (u := .slice a3 hsA.length c3) (v := .slice aB bsB.length cB) (by omega) hz0; have C2 := close2 (X := w6) (r := w.heap.size + 1) (s := w.heap.size) (m := W.heap.size) (u := .slice aB bsB.length cB) (v := .slice a3 hsA.length c3) hz0 (by omega); have H1 : Hid (StTwoR w (.returned (.tuple #[.agg #[.slice a3 hsA.length c3], .agg #[.slice aB bsB.length cB]])) ((w6.setCell ⟨w.heap.size, 0, none⟩ (.slice a3 hsA.length c3)).setCell ⟨w.heap.size + 1, 0, none⟩ (.slice aB bsB.length cB))) := ⟨(stateL l), bsB, _, _, HSD.out, hDB, rfl, HA _ C1.1 C1.2, HB _ C1.1 C1.2, (b6.setCell (p := ⟨w.heap.size, 0, none⟩) (Nat.le_refl _) _).setCell (p := ⟨w.heap.size + 1, 0, none⟩) (by simp) _⟩; have H2 : Hid (StTwoR w (.returned (.tuple #[.agg #[.slice a3 hsA.length c3], .agg #[.slice aB bsB.length cB]])) ((w6.setCell ⟨w.heap.size + 1, 0, none⟩ (.slice aB bsB.length cB)).setCell ⟨w.heap.size, 0, none⟩ (.slice a3 hsA.length c3))) := ⟨(stateL l), bsB, _, _, HSD.out, hDB, rfl, HA _ C2.1 C2.2, HB _ C2.1 C2.2, (b6.setCell (p := ⟨w.heap.size + 1, 0, none⟩) (by simp) _).setCell (p := ⟨w.heap.size, 0, none⟩) (Nat.le_refl _) _⟩; clear HA HB C1 C2 hx7 hy7 hx6 hy6 b6 RB RC D6 SC hc6 hg6; dsimp only))
    all_goals
      go_wp2
      first
        | (refine bodyPost_ret (v := .tuple #[.agg #[.slice a3 hsA.length c3], .agg #[.slice aB bsB.length cB]]) (by simp [results, Try.results6, go_sem, z0, z1]) rfl ?_; exact H1.out)
        | (refine bodyPost_ret (v := .tuple #[.agg #[.slice a3 hsA.length c3], .agg #[.slice aB bsB.length cB]]) (by simp [results, Try.results6, go_sem, z2, z3]) rfl ?_; exact H2.out)

end Go.Proofs.Ytgdkndlkapmhjaa

/- ValidAfter of the program, of drawn items: no less than 1. -/
namespace Go.Proofs.Ytgdkndlkapmhjaa
open Go.RowKit

set_option maxRecDepth 100000 in
set_option maxHeartbeats 4000000 in
theorem implValidAfter_one (l : List Itm) (v : Value) (w : World) (h : Rows' itE w v l) (hl : l.length ≤ 1048576) (hv : ∀ x ∈ l, 0 ≤ x.2.valid ∧ x.2.valid ≤ 10000) :
    Calls Try.prog 16 #[v] w fun e w' => (∃ r : Int, e = .returned (.int .i64 r) ∧ 1 ≤ r) ∧ Below w.heap.size w w' := by
  obtain ⟨ad, cap, rfl, hrow⟩ := h.items
  have HR := Lib.hid hrow
  have HV := Lib.hid hv
  clear h hrow hv
  obtain ⟨n, hn⟩ : ∃ n, l.length = n := ⟨_, rfl⟩
  rw [hn] at hl ⊢
  have HN := Lib.hid hn
  clear hn
  by_cases h0 : n = 0
  · subst h0
    go_enter Try.func16, Try.ntmps16
    go_wp2
    go_ret
    exact ⟨⟨1, rfl, by omega⟩, Below.refl _ _⟩
  have hn0 : ¬ (n : Int) = 0 := by omega
  have hnb : ((n : Int) == 0) = false := beq_eq_false_iff_ne.2 hn0
  have hz1 : (0 : Int) < (n : Int) := by omega
  obtain ⟨x0, hx0⟩ : ∃ x0, l[0]? = some x0 := ⟨_, List.getElem?_eq_getElem (by rw [HN.out]; omega)⟩
  have hv0 := HV.out x0 (List.mem_of_getElem? hx0)
  obtain ⟨gp, op, rfl, p0, p1, p2, p3, p4, p5, p6, p7, p8⟩ := HR.out _ (Below.refl _ _) 0 _ hx0
  rw [show op + 0 * 9 + 2 = op + 2 by omega] at p2
  clear hx0 p0 p1 p3 p4 p5 p6 p7 p8
  obtain ⟨m0, hm0⟩ : ∃ m0, x0.2.valid = m0 := ⟨_, rfl⟩
  rw [hm0] at p2 hv0
  clear hm0 h0
  go_enter Try.func16, Try.ntmps16
  go_wp2
  clear p2
  go_loopw [3, 16] (fun mv iv wr => ∃ (i : Nat) (m : Int), i ≤ n ∧ iv = .int .i64 (i : Int) ∧ mv = .int .i64 m ∧ 0 ≤ m ∧ m ≤ 10000 ∧ Below w.heap.size w wr) (fun _ iv _ => n - (intOf iv).toNat)
  case atStart => exact ⟨0, m0, by omega, rfl, rfl, by omega, by omega, Below.refl _ _⟩
  case round =>
    obtain ⟨i, m, hi, rfl, rfl, hm1, hm2, bq⟩ := hrel
    by_cases hlt : i < n
    · obtain ⟨x, hgx⟩ : ∃ x, l[i]? = some x := ⟨_, List.getElem?_eq_getElem (by rw [HN.out]; exact hlt)⟩
      obtain ⟨gq, oq, eq, p0, p1, p2, p3, p4, p5, p6, p7, p8⟩ := HR.out _ bq i _ hgx
      cases eq
      have hvx := HV.out x (List.mem_of_getElem? hgx)
      obtain ⟨sq, K, V, U, N, FL, US, NM, TX⟩ := x
      simp only at p0 p1 p2 p3 p4 p5 p6 p7 p8 hvx
      have hi0 : (0 : Int) ≤ (i : Int) := by omega
      have hi1 : (i : Int) < (n : Int) := by omega
      have b4 := bq.alloc bq.size (.cells #[.int .i64 sq, .int .i64 K, .int .i64 V, .int .i64 U, .int .i64 N, .int .i64 FL, .string US, .string NM, .string TX] 49)
      clear hgx
      by_cases hmv : m < V
      · go_wp2
        exact ⟨⟨i + 1, V, by omega, by simp, by first | rfl | (congr 1; omega) | simp [Int.max_def]; omega, by omega, by omega, b4⟩, by first | omega | (simp [intOf]; omega)⟩
      · go_wp2
        exact ⟨⟨i + 1, m, by omega, by simp, by first | rfl | (congr 1; omega) | simp [Int.max_def]; omega, by omega, by omega, b4⟩, by first | omega | (simp [intOf]; omega)⟩
    · have hge : ¬ (i : Int) < (n : Int) := by omega
      go_wp2
      go_ret
      exact ⟨⟨m + 1, by first | rfl | go_num, by omega⟩, bq⟩

end Go.Proofs.Ytgdkndlkapmhjaa

/- What records tell, gathered box by box, plainly. -/
namespace Go.Proofs.Ytgdkndlkapmhjaa

/-- What the records of one box tell, as far as they came. -/
structure Tb where
  named : Itm
  next : Int
  adds : Int → Option Itm
  flags : Int → Option Itm
def Tb.nil : Tb := ⟨(0, Rc.nil), 0, fun _ => none, fun _ => none⟩

/-- The number of what is there, 0 without it. -/
def sqO (o : Option Itm) : Int := match o with | some y => y.1 | none => 0
/-- The latest one of a mail. -/
def keepL (f : Int → Option Itm) (x : Itm) : Int → Option Itm := if sqO (f x.2.uid) < x.1 then (fun u => if u = x.2.uid then some x else f u) else f
theorem keepL_lt {f : Int → Option Itm} {x : Itm} (h : sqO (f x.2.uid) < x.1) : keepL f x = fun u => if u = x.2.uid then some x else f u := if_pos h
theorem keepL_ge {f : Int → Option Itm} {x : Itm} (h : ¬ sqO (f x.2.uid) < x.1) : keepL f x = f := if_neg h
/-- One record more. -/
def takeT (t : Tb) (x : Itm) : Tb :=
  if x.2.kind = 1 then ⟨if aheadB (fun y => y.2.next) x t.named then x else t.named, max t.next x.2.next, t.adds, t.flags⟩
  else if x.2.kind = 3 then ⟨t.named, max t.next (x.2.uid + 1), keepL t.adds x, t.flags⟩
  else if x.2.kind = 4 then ⟨t.named, t.next, t.adds, keepL t.flags x⟩
  else if x.2.kind = 5 then ⟨t.named, max t.next (x.2.uid + 1), t.adds, t.flags⟩
  else t

def fmT (l : List Itm) (v : Int) : Tb := ⟨(tellO v l).getD (0, Rc.nil), mostOf 0 (nextK v) l, fun u => bestR 3 v u l, fun u => bestR 4 v u l⟩
open Classical in
noncomputable def toldT (l : List Itm) (v : Int) : Option Tb := if ∃ x ∈ l, x.2.valid = v then some (fmT l v) else none

theorem bestO_snoc (k : Itm → Int) (p : Itm → Bool) (l : List Itm) (x : Itm) : bestO k p (l ++ [x]) = bestStep k p (bestO k p l) x := by
  unfold bestO; rw [List.foldl_append]; rfl
theorem mostOf_snoc (b : Int) (f : Itm → Int) (l : List Itm) (x : Itm) : mostOf b f (l ++ [x]) = if mostOf b f l < f x then f x else mostOf b f l := by
  unfold mostOf; rw [List.foldl_append]; rfl
theorem mostOf_ge (b : Int) (f : Itm → Int) (l : List Itm) : b ≤ mostOf b f l := (mostFold f l b).1
theorem bestStep_out {k : Itm → Int} {p : Itm → Bool} {o : Option Itm} {x : Itm} (h : p x = false) : bestStep k p o x = o := by
  unfold bestStep; rw [h]; rfl
theorem bestStep_in {k : Itm → Int} {p : Itm → Bool} {x : Itm} (h : p x = true) : bestStep k p none x = some x := by
  unfold bestStep; rw [if_pos h]
theorem bestStep_more {k : Itm → Int} {p : Itm → Bool} {x y : Itm} (h : p x = true) : bestStep k p (some y) x = if aheadB k x y then some x else some y := by
  unfold bestStep; rw [if_pos h]

/-- Without a record of it nothing is told of a box. -/
theorem fmT_none {l : List Itm} {v : Int} (h : ¬ ∃ x ∈ l, x.2.valid = v) : fmT l v = Tb.nil := by
  have hb : ∀ (k : Itm → Int) (p : Itm → Bool), (∀ x, p x = true → x.2.valid = v) → bestO k p l = none := by
    intro k p hp
    have hI := bestO_I k p l
    cases e : bestO k p l with
    | none => rfl
    | some y =>
      rw [e] at hI
      exact absurd ⟨y, hI.1, hp y hI.2.1⟩ h
  have hm : mostOf 0 (nextK v) l = 0 := by
    have : ∀ (m : List Itm), (∀ x ∈ m, nextK v x = 0) → mostOf 0 (nextK v) m = 0 := by
      intro m
      unfold mostOf
      induction m with
      | nil => intro _; rfl
      | cons x m ih =>
        intro hx
        rw [List.foldl_cons, hx x (by simp)]
        exact ih (fun y hy => hx y (List.mem_cons_of_mem _ hy))
    refine this l (fun x hx => ?_)
    unfold nextK
    rw [if_neg (fun e => h ⟨x, hx, e⟩)]
  unfold fmT Tb.nil
  congr 1
  · unfold tellO
    rw [hb _ _ (fun x hx => (of_decide_eq_true hx).2)]; rfl
  · funext u
    exact hb _ _ (fun x hx => (of_decide_eq_true hx).2.1)
  · funext u
    exact hb _ _ (fun x hx => (of_decide_eq_true hx).2.1)
theorem toldT_getD (l : List Itm) (v : Int) : (toldT l v).getD Tb.nil = fmT l v := by
  unfold toldT
  by_cases h : ∃ x ∈ l, x.2.valid = v
  · rw [if_pos h]; rfl
  · rw [if_neg h, fmT_none h]; rfl
theorem toldT_some {l : List Itm} {v : Int} {t : Tb} (h : toldT l v = some t) : t = fmT l v := by
  unfold toldT at h
  split at h
  · cases h; rfl
  · cases h

theorem fmT_other {l : List Itm} {x : Itm} {v : Int} (hv : x.2.valid ≠ v) : fmT (l ++ [x]) v = fmT l v := by
  have h0 : nextK v x = 0 := by unfold nextK; rw [if_neg hv]
  unfold fmT
  congr 1
  · unfold tellO
    rw [bestO_snoc, bestStep_out (decide_eq_false (fun c => hv c.2))]
  · rw [mostOf_snoc, h0, if_neg (by have := mostOf_ge 0 (nextK v) l; omega)]
  · funext u; unfold bestR; rw [bestO_snoc, bestStep_out (decide_eq_false (fun c => hv c.2.1))]
  · funext u; unfold bestR; rw [bestO_snoc, bestStep_out (decide_eq_false (fun c => hv c.2.1))]

theorem best_keep {kind v : Int} {l : List Itm} {x : Itm} (hv : x.2.valid = v) (hk : x.2.kind = kind) (hs : 1 ≤ x.1) : (fun u => bestR kind v u (l ++ [x])) = keepL (fun u => bestR kind v u l) x := by
  funext u
  by_cases hu : x.2.uid = u
  · have hp : decide (x.2.kind = kind ∧ x.2.valid = v ∧ x.2.uid = u) = true := decide_eq_true ⟨hk, hv, hu⟩
    have e0 : bestR kind v u (l ++ [x]) = bestStep (fun _ => 0) (fun x' => decide (x'.2.kind = kind ∧ x'.2.valid = v ∧ x'.2.uid = u)) (bestR kind v u l) x := bestO_snoc _ _ _ _
    show bestR kind v u (l ++ [x]) = _
    rw [e0]
    cases e : bestR kind v u l with
    | none =>
      have h1 : sqO ((fun u => bestR kind v u l) x.2.uid) < x.1 := by
        show sqO (bestR kind v x.2.uid l) < x.1
        rw [hu, e]; show (0 : Int) < x.1; omega
      rw [bestStep_in hp, keepL_lt h1]
      simp [hu]
    | some y =>
      rw [bestStep_more hp]
      have h0 : sqO ((fun u => bestR kind v u l) x.2.uid) = y.1 := by
        show sqO (bestR kind v x.2.uid l) = y.1
        rw [hu, e]; rfl
      by_cases c : y.1 < x.1
      · rw [keepL_lt (by rw [h0]; exact c), if_pos (by unfold aheadB; exact decide_eq_true (.inr ⟨rfl, c⟩))]; simp [hu]
      · rw [keepL_ge (by rw [h0]; exact c), if_neg (fun h => by unfold aheadB at h; have := of_decide_eq_true h; dsimp only at this; omega)]; exact e.symm
  · have e : bestR kind v u (l ++ [x]) = bestR kind v u l := by
      show bestO _ _ _ = _
      rw [bestO_snoc, bestStep_out (decide_eq_false (fun c => hu c.2.2))]; rfl
    show bestR kind v u (l ++ [x]) = _
    rw [e]
    unfold keepL
    split
    · show _ = if u = x.2.uid then some x else bestR kind v u l
      rw [if_neg (fun c => hu c.symm)]
    · rfl
theorem best_skip {kind v : Int} {l : List Itm} {x : Itm} (hk : x.2.kind ≠ kind) : (fun u => bestR kind v u (l ++ [x])) = fun u => bestR kind v u l := by
  funext u
  show bestO _ _ _ = _
  rw [bestO_snoc, bestStep_out (decide_eq_false (fun c => hk c.1))]; rfl
theorem tell_skip {v : Int} {l : List Itm} {x : Itm} (hk : x.2.kind ≠ 1) : tellO v (l ++ [x]) = tellO v l := by
  unfold tellO
  rw [bestO_snoc, bestStep_out (decide_eq_false (fun c => hk c.1))]
theorem most_max {v : Int} {l : List Itm} {x : Itm} : mostOf 0 (nextK v) (l ++ [x]) = max (mostOf 0 (nextK v) l) (nextK v x) := by
  rw [mostOf_snoc]
  split <;> omega
/-- One record more, told. -/
theorem fmT_step {l : List Itm} {x : Itm} (hs : 1 ≤ x.1) (hok : x.2.ok) : fmT (l ++ [x]) x.2.valid = takeT (fmT l x.2.valid) x := by
  have hge := mostOf_ge 0 (nextK x.2.valid) l
  unfold takeT
  by_cases h1 : x.2.kind = 1
  · rw [if_pos h1]
    have hn : 1 ≤ x.2.next := by
      have h := hok.2.2.1
      rw [if_pos h1] at h
      exact h.2.2.1
    have hnk : nextK x.2.valid x = x.2.next := by unfold nextK; rw [if_pos rfl, if_pos h1]
    unfold fmT
    rw [most_max, hnk, best_skip (by omega), best_skip (by omega)]
    congr 1
    unfold tellO
    rw [bestO_snoc]
    cases e : bestO (fun y => y.2.next) (fun y => decide (y.2.kind = 1 ∧ y.2.valid = x.2.valid)) l with
    | none =>
      rw [bestStep_in (decide_eq_true ⟨h1, rfl⟩)]
      simp only [Option.getD]
      rw [if_pos (by unfold aheadB; exact decide_eq_true (.inl (by show (0 : Int) < x.2.next; omega)))]
    | some y =>
      rw [bestStep_more (decide_eq_true ⟨h1, rfl⟩)]
      by_cases c : aheadB (fun y => y.2.next) x y = true
      · rw [if_pos c]
        show x = if aheadB (fun y => y.2.next) x y = true then x else y
        rw [if_pos c]
      · rw [if_neg c]
        show y = if aheadB (fun y => y.2.next) x y = true then x else y
        rw [if_neg c]
  rw [if_neg h1]
  by_cases h3 : x.2.kind = 3
  · rw [if_pos h3]
    have hnk : nextK x.2.valid x = x.2.uid + 1 := by unfold nextK; rw [if_pos rfl, if_neg h1, if_pos (.inl h3)]
    unfold fmT
    rw [most_max, hnk, best_keep rfl h3 hs, best_skip (kind := 4) (by omega), tell_skip h1]
  rw [if_neg h3]
  by_cases h4 : x.2.kind = 4
  · rw [if_pos h4]
    have hnk : nextK x.2.valid x = 0 := by unfold nextK; rw [if_pos rfl, if_neg h1, if_neg (by omega)]
    unfold fmT
    rw [most_max, hnk, best_keep rfl h4 hs, best_skip (kind := 3) (by omega), tell_skip h1, Int.max_eq_left hge]
  rw [if_neg h4]
  by_cases h5 : x.2.kind = 5
  · rw [if_pos h5]
    have hnk : nextK x.2.valid x = x.2.uid + 1 := by unfold nextK; rw [if_pos rfl, if_neg h1, if_pos (.inr h5)]
    unfold fmT
    rw [most_max, hnk, best_skip (kind := 3) (by omega), best_skip (kind := 4) (by omega), tell_skip h1]
  rw [if_neg h5]
  have hnk : nextK x.2.valid x = 0 := by unfold nextK; rw [if_pos rfl, if_neg h1, if_neg (by omega)]
  unfold fmT
  rw [most_max, hnk, best_skip (kind := 3) (by omega), best_skip (kind := 4) (by omega), tell_skip h1, Int.max_eq_left hge]

theorem toldT_step {l : List Itm} {x : Itm} (hs : 1 ≤ x.1) (hok : x.2.ok) (v : Int) : toldT (l ++ [x]) v = if v = x.2.valid then some (takeT ((toldT l v).getD Tb.nil) x) else toldT l v := by
  by_cases c : v = x.2.valid
  · subst c
    rw [if_pos rfl, toldT_getD]
    unfold toldT
    rw [if_pos ⟨x, by simp, rfl⟩, fmT_step hs hok]
  · rw [if_neg c]
    have hi : (∃ y ∈ l ++ [x], y.2.valid = v) ↔ ∃ y ∈ l, y.2.valid = v := by
      constructor
      · rintro ⟨y, hy, e⟩
        rcases List.mem_append.1 hy with h | h
        · exact ⟨y, h, e⟩
        · simp at h; subst h; exact absurd e.symm c
      · rintro ⟨y, hy, e⟩; exact ⟨y, List.mem_append_left _ hy, e⟩
    unfold toldT
    rw [fmT_other (fun e => c e.symm)]
    by_cases d : ∃ y ∈ l, y.2.valid = v
    · rw [if_pos d, if_pos (hi.2 d)]
    · rw [if_neg d, if_neg (fun h => d (hi.1 h))]
theorem toldT_nil (v : Int) : toldT [] v = none := by unfold toldT; rw [if_neg (by simp)]

end Go.Proofs.Ytgdkndlkapmhjaa

/- Maps of a call's own, as functions: at each key what stands there, or nothing. -/
namespace Go.Proofs.Ytgdkndlkapmhjaa
open Go.RowKit
open Go.Maps (Keyed)

section
variable {β : Type}

open Classical in
/-- An element of a map, told by what it is the value of. -/
noncomputable def shp (mk : β → Value) (v : Value) : Option (DataW β × List MemPlace) :=
  if h : ∃ c, v = mk c then some (.held (Classical.choose h), []) else none

theorem shp_inv {mk : β → Value} {v : Value} {y : DataW β × List MemPlace} (h : shp mk v = some y) : ∃ c, v = mk c ∧ y = (.held c, []) := by
  unfold shp at h
  split at h
  · rename_i hc
    cases h
    exact ⟨_, Classical.choose_spec hc, rfl⟩
  · cases h

theorem shp_mk {mk : β → Value} (hi : ∀ x y, mk x = mk y → x = y) (c : β) : shp mk (mk c) = some (.held c, []) := by
  unfold shp
  have h : ∃ c', mk c = mk c' := ⟨c, rfl⟩
  rw [dif_pos h]
  have := hi _ _ (Classical.choose_spec h)
  rw [← this]
end

/-- How keys stand. -/
structure KeyE (P : Program) (κ : Type) where
  ty : TypeId
  law : Keyed P ty
  val : κ → Value
  lit : κ → Lit
  ok : κ → Prop
  key : ∀ x, ok x → keyOf P ty (val x) = some (lit x)
  inv : ∀ v l, keyOf P ty v = some l → ∃ x, ok x ∧ v = val x
  inj : ∀ x y, val x = val y → x = y

/-- Whole numbers as keys. -/
def intK {P : Program} (t : TypeId) (h : P.underlying t = some (.int .i64)) : KeyE P Int where
  ty := t
  law := Maps.int_keyed h
  val := Value.int .i64
  lit := Lit.int .i64
  ok := fun x => (Lit.int .i64 x).wf = true
  key := fun _ hx => Maps.keyOf_int_mk h hx
  inv := fun v l hv => by
    obtain ⟨x, rfl, rfl, hx⟩ := Maps.keyOf_int_inv h hv
    exact ⟨x, hx, rfl⟩
  inj := fun x y e => by cases e; rfl

section
variable {P : Program} {κ β : Type}

theorem KeyE.lit_inj (K : KeyE P κ) {x y : κ} (hx : K.ok x) (hy : K.ok y) (h : K.lit x = K.lit y) : x = y := by
  have h1 := K.key x hx
  have h2 := K.key y hy
  rw [h] at h1
  exact K.inj _ _ (K.law.inj h1 h2)

theorem KeyE.isKey (K : KeyE P κ) {x : κ} (hx : K.ok x) : WideAt.IsKeyLit (K.lit x) := K.law.key (K.key x hx)

/-- What a datum has at each key. -/
def Looks (K : KeyE P κ) (D : DataW β) (f : κ → Option β) : Prop :=
  ∀ x, K.ok x → (f x = none ∧ Maps.has D (K.lit x) = false) ∨ ∃ c, f x = some c ∧ Maps.has D (K.lit x) = true ∧ ∀ z, D.atKey (K.lit x) z = .held c

/-- The map in the block b holds f, in at most n entries. -/
def MapIs (K : KeyE P κ) (mk : β → Value) (w : World) (b n : Nat) (f : κ → Option β) : Prop :=
  ∃ D : DataW β, w.ownsMap P K.ty (shp mk) b n D ∧ Looks K D f

/-- It is gone through: what is still to come. -/
def MapGo (K : KeyE P κ) (mk : β → Value) (w : World) (b r n : Nat) (f : κ → Option β) (todo : κ → Bool) (cnt : Nat) : Prop :=
  ∃ (D : DataW β) (left : Lit → Bool), w.ranges P K.ty (shp mk) b r n D left cnt ∧ Looks K D f ∧ ∀ x, K.ok x → left (K.lit x) = todo x

variable {K : KeyE P κ} {mk : β → Value} {w w' : World} {b r n cnt : Nat} {f : κ → Option β} {todo : κ → Bool}

theorem MapIs.made (K : KeyE P κ) (mk : β → Value) (w : World) : MapIs K mk (w.alloc (.map #[] 0)) w.heap.size 0 (fun _ => none) :=
  ⟨.map [], World.ownsMap_made w P K.ty (shp mk), fun _ _ => .inl ⟨rfl, rfl⟩⟩
theorem MapIs.lt (h : MapIs K mk w b n f) : b < w.heap.size := by obtain ⟨D, h1, _⟩ := h; exact h1.lt
theorem MapIs.mono (h : MapIs K mk w b n f) {n' : Nat} (hn : n ≤ n') : MapIs K mk w b n' f := by obtain ⟨D, h1, h2⟩ := h; exact ⟨D, h1.mono hn, h2⟩
theorem MapIs.kept {row : Option Nat} (h : MapIs K mk w b n f) (hg : w.grownBy w' row) (hne : some b ≠ row) : MapIs K mk w' b n f := by
  obtain ⟨D, h1, h2⟩ := h
  exact ⟨D, h1.kept hg hne, h2⟩
theorem MapIs.later (h : MapIs K mk w b n f) (hb : Below w.heap.size w w') : MapIs K mk w' b n f :=
  h.kept (row := none) ⟨hb.os, hb.tape, hb.output, hb.size, fun k hk _ => hb.block k hk⟩ (by simp)
theorem MapIs.under {B : Nat} (h : MapIs K mk w b n f) (hb : Below B w w') (hl : b < B) : MapIs K mk w' b n f := by
  obtain ⟨D, ⟨es, clock, e, r⟩, h2⟩ := h
  exact ⟨D, ⟨es, clock, (hb.block b hl).trans e, r⟩, h2⟩
theorem MapIs.same (h : MapIs K mk w b n f) (e : w'.heap[b]? = w.heap[b]?) : MapIs K mk w' b n f := by
  obtain ⟨D, ⟨es, clock, e0, r⟩, h2⟩ := h
  exact ⟨D, ⟨es, clock, e.trans e0, r⟩, h2⟩
theorem MapIs.setCell (h : MapIs K mk w b n f) {a : Addr} (ha : b ≠ a.block) (u : Value) : MapIs K mk (w.setCell a u) b n f := by
  obtain ⟨D, h1, h2⟩ := h
  exact ⟨D, h1.setCell ha u, h2⟩
theorem MapIs.congr {g : κ → Option β} (h : MapIs K mk w b n f) (e : ∀ x, K.ok x → f x = g x) : MapIs K mk w b n g := by
  obtain ⟨D, h1, h2⟩ := h
  refine ⟨D, h1, fun x hx => ?_⟩
  rw [← e x hx]
  exact h2 x hx

/-- A block is no map and a row of cells. -/
theorem MapIs.notBox {cs : Array Value} {t : TypeId} (h : MapIs K mk w b n f) {g : Nat} (hb : Box w g cs t) : b ≠ g := by
  obtain ⟨D, ⟨es, clock, e, _⟩, _⟩ := h
  rintro rfl
  unfold Box at hb
  rw [e] at hb
  cases hb

theorem MapIs.look_there {t e : TypeId} (h : MapIs K mk w b n f) (ht : P.underlying t = some (.map K.ty e)) {z : Value} (hz : (zeroValue e).run P w = .ok z w) {x : κ} (hx : K.ok x) {c : β} (hf : f x = some c) (ok : Bool) :
    (Instr.lookup t (.map (some b)) (K.val x) ok).run P w = .ok (if ok then .tuple #[mk c, .bool true] else mk c) w := by
  obtain ⟨D, ⟨es, clock, hb, F, _, rfl⟩, hL⟩ := h
  rcases hL x hx with ⟨h1, _⟩ | ⟨c', h1, hh, h2⟩
  · rw [hf] at h1; cases h1
  · rw [hf] at h1
    cases h1
    rcases Maps.fit_look ok K.law ht hz hb F (K.key x hx) with ⟨hrun, _, hat⟩ | ⟨e0, y, _, _, hrun, hRv, hat, _⟩
    · have h3 := Maps.has_false_of_atKey hat
      rw [hh] at h3
      cases h3
    · obtain ⟨c2, e1, e2⟩ := shp_inv hRv
      have h3 : y.1 = .held c := (hat .nil).symm.trans (h2 .nil)
      rw [e2] at h3
      cases h3
      rw [e1] at hrun
      exact hrun

theorem MapIs.look_gone {t e : TypeId} (h : MapIs K mk w b n f) (ht : P.underlying t = some (.map K.ty e)) {z : Value} (hz : (zeroValue e).run P w = .ok z w) {x : κ} (hx : K.ok x) (hf : f x = none) (ok : Bool) :
    (Instr.lookup t (.map (some b)) (K.val x) ok).run P w = .ok (if ok then .tuple #[z, .bool false] else z) w := by
  obtain ⟨D, ⟨es, clock, hb, F, _, rfl⟩, hL⟩ := h
  rcases hL x hx with ⟨_, hh⟩ | ⟨c', h1, _⟩
  · rcases Maps.fit_look ok K.law ht hz hb F (K.key x hx) with ⟨hrun, _, hat⟩ | ⟨e0, y, _, _, hrun, hRv, hat, _⟩
    · exact hrun
    · have h3 := Maps.has_true_of_atKey hat
      rw [hh] at h3
      cases h3
  · rw [hf] at h1; cases h1

theorem MapIs.len {t e : TypeId} (h : MapIs K mk w b n f) (ht : P.underlying t = some (.map K.ty e)) (ty : TypeId) : ∃ k : Nat, k ≤ n ∧ (Builtin.len_ #[t] ty #[.map (some b)]).run P w = .ok (.int .i64 k) w := by
  obtain ⟨D, h1, _⟩ := h
  exact ⟨_, h1.size_le, h1.len ht ty⟩

/-! ### gone through -/
theorem MapGo.is (h : MapGo K mk w b r n f todo cnt) : MapIs K mk w b n f := by
  obtain ⟨D, left, h1, h2, _⟩ := h
  exact ⟨D, h1.owns, h2⟩
theorem MapGo.left_eq (h : MapGo K mk w b r n f todo cnt) : w.rangeLeft b r = cnt := by obtain ⟨D, left, h1, _⟩ := h; exact h1.left_eq
theorem MapGo.ne (h : MapGo K mk w b r n f todo cnt) : r ≠ b := by obtain ⟨D, left, h1, _⟩ := h; exact h1.ne
theorem MapGo.lt (h : MapGo K mk w b r n f todo cnt) : r < w.heap.size := by obtain ⟨D, left, h1, _⟩ := h; exact h1.lt
theorem MapGo.kept {row : Option Nat} (h : MapGo K mk w b r n f todo cnt) (hg : w.grownBy w' row) (h1 : some b ≠ row) (h2 : some r ≠ row) : MapGo K mk w' b r n f todo cnt := by
  obtain ⟨D, left, h3, h4⟩ := h
  exact ⟨D, left, h3.kept hg h1 h2, h4⟩
theorem MapGo.later (h : MapGo K mk w b r n f todo cnt) (hb : Below w.heap.size w w') : MapGo K mk w' b r n f todo cnt :=
  h.kept (row := none) ⟨hb.os, hb.tape, hb.output, hb.size, fun k hk _ => hb.block k hk⟩ (by simp) (by simp)
theorem MapGo.notBox {cs : Array Value} {t : TypeId} (h : MapGo K mk w b r n f todo cnt) {g : Nat} (hb : Box w g cs t) : r ≠ g := by
  obtain ⟨D, left, ⟨es, clock, _, _, _, _, _, _, _, e, _⟩, _⟩ := h
  rintro rfl
  unfold Box at hb
  rw [e] at hb
  cases hb

/-- 'range m', at the operation. -/
theorem wpList_range_is {ops : Array Oper} {rest : List Oper} {o : Oper} {a : Act} {Q : Exit → Act → World → Prop} (hg : o.guard = none) (m : Operand) (t : TypeId) (hop : o.op = Op.range t m)
    (K : KeyE P κ) (mk : β → Value) (e : TypeId) (ht : P.underlying t = some (.map K.ty e)) (b n : Nat) (f : κ → Option β) (hm : a.eval m = .map (some b)) (h : MapIs K mk w b n f)
    (hK : ∀ w' cnt, cnt ≤ n → MapGo K mk w' b w.heap.size n f (fun x => (f x).isSome) cnt → w.grownBy w' none → w'.heap.size = w.heap.size + 1 → wpList P ops Q rest (a.put o.dst (.pointer (some ⟨w.heap.size, 0, none⟩))) w') :
    wpList P ops Q (o :: rest) a w := by
  obtain ⟨D, h1, h2⟩ := h
  refine wpList_range_own w hg m t hop K.ty e K.law ht (shp mk) b n D hm h1 fun w' r1 r2 r3 => hK w' _ h1.size_le ⟨D, _, r1, h2, fun x hx => ?_⟩ r2 r3
  rcases h2 x hx with ⟨e1, e2⟩ | ⟨c, e1, e2, _⟩
  · show _ = (f x).isSome
    rw [e1, e2]; rfl
  · show _ = (f x).isSome
    rw [e1, e2]; rfl

variable [DecidableEq κ]

theorem Looks.put {D : DataW β} (h : Looks K D f) (hD : Maps.IsMap D) {x : κ} (hx : K.ok x) (c : β) : Looks K (D.put (K.lit x) (.held c)) (fun y => if y = x then some c else f y) := by
  intro y hy
  by_cases e : y = x
  · subst e
    refine .inr ⟨c, by simp, Maps.has_put_same hD (K.isKey hy) _, fun z => Maps.atKey_put_same hD (K.isKey hy) _ z⟩
  · have hne : K.lit y ≠ K.lit x := fun e2 => e (K.lit_inj hy hx e2)
    rcases h y hy with ⟨h1, h2⟩ | ⟨c', h1, h2, h3⟩
    · exact .inl ⟨by simp [e, h1], by rw [Maps.has_put_other hne]; exact h2⟩
    · exact .inr ⟨c', by simp [e, h1], by rw [Maps.has_put_other hne]; exact h2, fun z => by rw [Maps.atKey_put_other hne]; exact h3 z⟩

theorem Looks.del {D : DataW β} (h : Looks K D f) {x : κ} (hx : K.ok x) : Looks K (D.del (K.lit x)) (fun y => if y = x then none else f y) := by
  intro y hy
  by_cases e : y = x
  · subst e
    exact .inl ⟨by simp, Maps.has_del_same⟩
  · have hne : K.lit y ≠ K.lit x := fun e2 => e (K.lit_inj hy hx e2)
    rcases h y hy with ⟨h1, h2⟩ | ⟨c', h1, h2, h3⟩
    · exact .inl ⟨by simp [e, h1], by rw [Maps.has_del_other hne]; exact h2⟩
    · exact .inr ⟨c', by simp [e, h1], by rw [Maps.has_del_other hne]; exact h2, fun z => by rw [Maps.atKey_del_other hne]; exact h3 z⟩

/-- A store. -/
theorem MapIs.put {t e : TypeId} (h : MapIs K mk w b n f) (hi : ∀ x y, mk x = mk y → x = y) (ht : P.underlying t = some (.map K.ty e)) (hn : n < maxLen) {x : κ} (hx : K.ok x) (c : β) :
    ∃ w', (Instr.mapUpdate t (.map (some b)) (K.val x) (mk c)).run P w = .ok () w' ∧ MapIs K mk w' b (n + 1) (fun y => if y = x then some c else f y) ∧ w.grownBy w' (some b) ∧ w'.heap.size = w.heap.size := by
  obtain ⟨D, h1, h2⟩ := h
  obtain ⟨w', r1, r2, r3⟩ := h1.store K.law ht hn (K.key x hx) (shp_mk hi c)
  refine ⟨w', r1, ⟨_, r2, h2.put h1.isMap hx c⟩, r3.grown, ?_⟩
  obtain ⟨_, _, _, _, _, rfl⟩ := r3
  simp [ChangeMaps.setBlock]

theorem MapIs.del {t e : TypeId} (h : MapIs K mk w b n f) (ht : P.underlying t = some (.map K.ty e)) {x : κ} (hx : K.ok x) (ty : TypeId) :
    ∃ w', (Builtin.delete_ #[t, K.ty] ty #[.map (some b), K.val x]).run P w = .ok (.tuple #[]) w' ∧ MapIs K mk w' b n (fun y => if y = x then none else f y) ∧ w.grownBy w' (some b) ∧ w'.heap.size = w.heap.size := by
  obtain ⟨D, h1, h2⟩ := h
  obtain ⟨w', r1, r2, r3⟩ := h1.drop K.law ht (K.key x hx) ty
  refine ⟨w', r1, ⟨_, r2, h2.del hx⟩, r3.grown, ?_⟩
  obtain ⟨_, _, _, _, _, rfl⟩ := r3
  simp [ChangeMaps.setBlock]

/-- A store, at the operation. -/
theorem wpList_put {ops : Array Oper} {rest : List Oper} {o : Oper} {a : Act} {Q : Exit → Act → World → Prop} (hg : o.guard = none) (m x v : Operand) (t : TypeId) (hop : o.op = Op.mapUpdate t m x v)
    (K : KeyE P κ) (mk : β → Value) (hi : ∀ x y, mk x = mk y → x = y) (e : TypeId) (ht : P.underlying t = some (.map K.ty e)) (b n : Nat) (f : κ → Option β)
    (hm : a.eval m = .map (some b)) (h : MapIs K mk w b n f) (hn : n < maxLen) (y : κ) (c : β) (hx : a.eval x = K.val y) (hv : a.eval v = mk c) (hok : K.ok y)
    (hK : ∀ w', MapIs K mk w' b (n + 1) (fun z => if z = y then some c else f z) → w.grownBy w' (some b) → w'.heap.size = w.heap.size → wpList P ops Q rest (a.put o.dst undef) w') :
    wpList P ops Q (o :: rest) a w := by
  refine wpList_plain hg fun K' hK' => ?_
  obtain ⟨w', hrun, r1, r2, r3⟩ := h.put hi ht hn hok c
  unfold Oper.wp
  simp [execOp, hop, hm, hx, hv, hrun, Result.andThen]
  exact hK' _ _ (hK w' r1 r2 r3)

/-- A delete, at the operation. -/
theorem wpList_del {ops : Array Oper} {rest : List Oper} {o : Oper} {a : Act} {Q : Exit → Act → World → Prop} (hg : o.guard = none) (m x : Operand) (t : TypeId) (K : KeyE P κ) (hop : o.op = Op.call { callee := Callee.builtin Builtin.delete, args := #[m, x], argTypes := #[t, K.ty] })
    (mk : β → Value) (e : TypeId) (ht : P.underlying t = some (.map K.ty e)) (b n : Nat) (f : κ → Option β)
    (hm : a.eval m = .map (some b)) (h : MapIs K mk w b n f) (y : κ) (hx : a.eval x = K.val y) (hok : K.ok y)
    (hK : ∀ w', MapIs K mk w' b n (fun z => if z = y then none else f z) → w.grownBy w' (some b) → w'.heap.size = w.heap.size → wpList P ops Q rest (a.put o.dst (.tuple #[])) w') :
    wpList P ops Q (o :: rest) a w := by
  refine wpList_plain hg fun K' hK' => ?_
  obtain ⟨w', hrun, r1, r2, r3⟩ := h.del ht hok o.type
  unfold Oper.wp
  simp [execOp, hop, resolve, invoke, builtin, hm, hx, hrun, Result.andThen]
  exact hK' _ _ (hK w' r1 r2 r3)

/-- 'next', at the operation. -/
theorem wpList_next_is {ops : Array Oper} {rest : List Oper} {o : Oper} {a : Act} {Q : Exit → Act → World → Prop} (hg : o.guard = none) (it : Operand) (hop : o.op = Op.next it false)
    (K : KeyE P κ) (mk : β → Value) (hi : ∀ x y, mk x = mk y → x = y) (b r n : Nat) (f : κ → Option β) (todo : κ → Bool) (cnt : Nat) (hit : a.eval it = .pointer (some ⟨r, 0, none⟩)) (h : MapGo K mk w b r n f todo cnt)
    (hDone : (∀ x, K.ok x → todo x = false) → wpList P ops Q rest (a.put o.dst (.tuple #[.bool false])) w)
    (hMore : ∀ (x : κ) (c : β) (w' : World) (cnt' : Nat), K.ok x → todo x = true → f x = some c → MapGo K mk w' b r n f (fun y => todo y && !decide (y = x)) cnt' → cnt' < cnt → w.grownBy w' (some r) → w'.heap.size = w.heap.size →
      (Instr.entry (.pointer (some ⟨r, 0, none⟩))).run P w' = .ok (.tuple #[K.val x, mk c]) w' → wpList P ops Q rest (a.put o.dst (.tuple #[.bool true, K.val x, mk c])) w') :
    wpList P ops Q (o :: rest) a w := by
  obtain ⟨D, left, h1, h2, h3⟩ := h
  refine wpList_next_ranges (α := κ) (β := β) w hg it hop K.ty K.law (shp mk) K.val mk (fun key kl hk => ?_) (fun v y hv => ?_) b r n D left cnt hit h1 (fun _ hl => hDone fun x hx => by rw [← h3 x hx]; exact hl _) ?_
  · obtain ⟨x, _, rfl⟩ := K.inv key kl hk
    exact ⟨x, rfl⟩
  · obtain ⟨c, rfl, _⟩ := shp_inv hv
    exact ⟨c, rfl⟩
  · intro x c kl y w' cnt' hk hl hv hat hrg hlt hgr hsz hen
    obtain ⟨x', hx', e⟩ := K.inv _ _ hk
    have e' := K.inj _ _ e
    subst e'
    have ek : kl = K.lit x := Option.some.inj (hk.symm.trans (K.key x hx'))
    subst ek
    have hf : f x = some c := by
      have hh : Maps.has D (K.lit x) = true := Maps.has_true_of_atKey hat
      rcases h2 x hx' with ⟨_, e3⟩ | ⟨c', e3, _, e4⟩
      · rw [hh] at e3; cases e3
      · obtain ⟨c2, e5, e6⟩ := shp_inv hv
        have e7 : y.1 = .held c' := (hat .nil).symm.trans (e4 .nil)
        rw [e6] at e7
        cases e7
        rw [e3, hi _ _ e5]
    refine hMore x c w' cnt' hx' (by rw [← h3 x hx']; exact hl) hf ⟨D, _, hrg, h2, fun y' hy' => ?_⟩ hlt hgr hsz hen
    by_cases e3 : y' = x
    · subst e3
      simp [WideAt.sameKey_self (K.isKey hy')]
    · have : (K.lit y').sameKey (K.lit x) = false := Maps.sameKey_ne (fun e4 => e3 (K.lit_inj hy' hx' e4))
      rw [this, h3 y' hy']
      simp [e3]
end

end Go.Proofs.Ytgdkndlkapmhjaa
