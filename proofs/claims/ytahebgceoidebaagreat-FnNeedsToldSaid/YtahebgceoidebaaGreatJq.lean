/- Texts of our own, joined. -/
import Derived.Test.YtahebgceoidebaaGreatJa
import Derived.Test.YtahebgceoidebaaGreatJp
import Derived.Test.YtahebgceoidebaaGreatJh
import Derived.Test.YtahebgceoidebaaGreatJi
import Derived.Test.YtahebgceoidebaaGreatJe
import Derived.Test.YtahebgceoidebaaGreatJb
import Derived.Lib.SmallJoins
/- A list that can be read, appended to one of the call's own. -/
namespace Go.Proofs.YtahebgceoidebaaGreat
open Go.RowKit

variable {α : Type} {E : Enc α}

theorem run_append_zero {P : Program} {w : World} (base : Nat) (t ty e : TypeId) (i : TypeInfo) (size : Nat) (ht : P.underlying t = some (.slice e)) (hi : P.info? e = some i)
    (v : Value) (n : Nat) (xs : List Value) (hown : w.ownsRow base e size v n xs) (a : Option Addr) (c : Nat) :
    (Builtin.append_ #[t, t] ty #[v, .slice a 0 c]).run P w = .ok v w := by
  rcases hown.2 with ⟨rfl, rfl⟩ | ⟨g, cap, cur, rfl, _, _, hnc, _⟩
  · cases a <;> simp [Builtin.append_, run_underlying ht, sizeOf, typeInfo, hi, Builtin.lenOf, Builtin.firstCells, loadCells, loadCellsFrom]
  · cases a <;> simp [Builtin.append_, run_underlying ht, sizeOf, typeInfo, hi, Builtin.lenOf, Builtin.firstCells, hnc, storeCells, loadCells, loadCellsFrom]

theorem run_append_rd {w : World} (ty : TypeId) (B : Nat) (v : Value) (l : List α) (hb : RBuf E B w w v l) (vx : Value) (m : List α) (hx : Rows' E w vx m)
    (hlen : (l.length + m.length) * (E.bytes + 1) ≤ 140737488355328) :
    ∃ v' w', (Builtin.append_ #[E.sty, E.sty] ty #[v, vx]).run Tryz.prog w = .ok v' w' ∧ RBuf E B w' w' v' (l ++ m) ∧ w.grownBy w' v.ownBlock ∧ (v'.ownBlock = v.ownBlock ∨ v'.ownBlock = some w.heap.size) := by
  obtain ⟨i0, hi, hz0, hz1, hz2⟩ := info_parts E.info
  have e0 : (l.length + m.length) * (E.bytes + 1) = (l.length + m.length) * E.bytes + (l.length + m.length) := Nat.mul_succ _ _
  rcases hx with ⟨rfl, a, c, rfl⟩ | ⟨g, off, cap, rfl, hc, hg, hcl⟩
  · exact ⟨v, w, run_append_zero (P := Tryz.prog) B E.sty ty E.ty i0 E.sz E.und hi v l.length (E.row l) hb.own a c, by simpa using hb, World.grownBy.refl _ _, .inl rfl⟩
  · obtain ⟨v', w', h1, h2, h3, _, h5⟩ := run_append_own_at (P := Tryz.prog) w B E.sty ty E.ty i0 E.zero E.sz E.bytes E.und hi hz0 hz1 hz2 E.zc E.pos v l.length (E.row l) hb.own ⟨g, off, none⟩ m.length cap (E.row m) (E.row_length m)
      (fun j u hu => by
        have hjl : j < m.length * E.sz := by have := (List.getElem?_eq_some_iff.1 hu).1; rwa [E.row_length] at this
        have hp := E.pos
        have hq : j / E.sz < m.length := Nat.div_lt_of_lt_mul (by rw [Nat.mul_comm]; exact hjl)
        have hr : j % E.sz < E.sz := Nat.mod_lt _ hp
        have hj : j / E.sz * E.sz + j % E.sz = j := Nat.div_add_mod' j E.sz
        have hgq : m[j / E.sz]? = some m[j / E.sz] := List.getElem?_eq_getElem hq
        have h6 := E.row_at m (j / E.sz) _ hgq (j % E.sz) hr
        rw [hj, hu] at h6
        have h7 := hcl (j / E.sz) _ hgq (j % E.sz) u h6.symm
        rw [Nat.add_assoc, hj] at h7
        rw [Addr.add_lit]
        exact h7) (E.row_one' m) (by unfold maxLen; omega) (by omega) hb.le
    refine ⟨v', w', h1, ⟨?_, Below.refl _ _, Nat.le_trans hb.le h3.size⟩, h3, h5⟩
    rw [List.length_append, E.row_append]
    exact h2

theorem wp_append_rd {w : World} {o : Oper} {a : Act} {K : Act → World → Prop} {Q : Exit → Act → World → Prop} (s x : Operand) (E : Enc α)
    (ho : o.op = .call { callee := .builtin .append, args := #[s, x], argTypes := #[E.sty, E.sty] })
    (B : Nat) (v : Value) (l : List α) (hs : a.eval s = v) (hb : RBuf E B w w v l) (vx : Value) (m : List α) (hxv : a.eval x = vx) (hx : Rows' E w vx m)
    (hlen : (l.length + m.length) * (E.bytes + 1) ≤ 140737488355328)
    (h : ∀ v' w', RBuf E B w' w' v' (l ++ m) → w.grownBy w' v.ownBlock → (v'.ownBlock = v.ownBlock ∨ v'.ownBlock = some w.heap.size) → K (a.put o.dst v') w') : o.wp Tryz.prog a w K Q := by
  obtain ⟨v', w', hr, h2, h3, h4⟩ := run_append_rd o.type B v l hb vx m hx hlen
  unfold Oper.wp execOp
  simp only [ho, resolve, invoke, builtin, Sem.run_bind, Sem.run_pure, Result.andThen_ok, List.map_toArray, List.map_cons, List.map_nil, hs, hxv, hr]
  exact h v' w' h2 h3 h4

theorem wpList_append_rd {w : World} {ops : Array Oper} {rest : List Oper} {o : Oper} {a : Act} {Q : Exit → Act → World → Prop} (hgd : o.guard = none) (s x : Operand) (E : Enc α)
    (ho : o.op = .call { callee := .builtin .append, args := #[s, x], argTypes := #[E.sty, E.sty] })
    (B : Nat) (v : Value) (l : List α) (hs : a.eval s = v) (hb : RBuf E B w w v l) (vx : Value) (m : List α) (hxv : a.eval x = vx) (hx : Rows' E w vx m)
    (hlen : (l.length + m.length) * (E.bytes + 1) ≤ 140737488355328)
    (h : ∀ v' w', RBuf E B w' w' v' (l ++ m) → w.grownBy w' v.ownBlock → (v'.ownBlock = v.ownBlock ∨ v'.ownBlock = some w.heap.size) → wpList Tryz.prog ops Q rest (a.put o.dst v') w') : wpList Tryz.prog ops Q (o :: rest) a w :=
  wpList_plain hgd fun _ hK => wp_append_rd s x E ho B v l hs hb vx m hxv hx hlen fun v' w' h2 h3 h4 => hK _ _ (h v' w' h2 h3 h4)

end Go.Proofs.YtahebgceoidebaaGreat

/- What is drawn for the chapters on what records tell and on what is needed: any items, and which of them go. -/
namespace Go.Proofs.YtahebgceoidebaaGreat
open Go.RowKit

def Rc.tame (r : Rc) : Prop := r.slim ∧ 0 ≤ r.valid ∧ r.valid ≤ 10000
theorem Rc.ok_tame {r : Rc} (h : r.ok ∧ r.slim) : r.tame := ⟨h.2, by have := h.1.2.1; omega, by have := h.1.2.1; omega⟩

set_option maxRecDepth 100000 in
set_option maxHeartbeats 1000000 in
theorem recTame_any (pc : Nat) (a : Option Addr) (len cap : Nat) (w : World) (hc : Cur w pc a len cap) :
    Calls Tryz.prog 65 #[.pointer (some ⟨pc, 0, none⟩)] w fun e w' => RcR Rc.tame pc a len cap w e w' := by
  have hx := Box.new w #[.int .i64 0, .int .i64 0, .int .i64 0, .int .i64 0, .int .i64 0, .string ⟨#[]⟩, .string ⟨#[]⟩, .string ⟨#[]⟩] 47
  have hg0 : w.grownBy (w.alloc (.cells #[.int .i64 0, .int .i64 0, .int .i64 0, .int .i64 0, .int .i64 0, .string ⟨#[]⟩, .string ⟨#[]⟩, .string ⟨#[]⟩] 47)) (some pc) := World.grownBy_alloc _ _ _
  have hc0 := hc.alloc (.cells #[.int .i64 0, .int .i64 0, .int .i64 0, .int .i64 0, .int .i64 0, .string ⟨#[]⟩, .string ⟨#[]⟩, .string ⟨#[]⟩] 47)
  have hpc := hc.lt
  have hz0 : w.heap.size < (w.alloc (.cells #[.int .i64 0, .int .i64 0, .int .i64 0, .int .i64 0, .int .i64 0, .string ⟨#[]⟩, .string ⟨#[]⟩, .string ⟨#[]⟩] 47)).heap.size := by simp
  go_enter Tryz.func65, Tryz.ntmps65
  go_wp2_with fail
  generalize w.alloc (.cells #[.int .i64 0, .int .i64 0, .int .i64 0, .int .i64 0, .int .i64 0, .string ⟨#[]⟩, .string ⟨#[]⟩, .string ⟨#[]⟩] 47) = W at *
  refine (below_any 14 pc a len cap _ hc0 (by omega)).mono ?_
  rintro e w1 ⟨k, hk, _, rfl, hc1, hg1⟩
  go_wp2_with fail
  refine (below_any 60 pc a len cap _ hc1 (by omega)).mono ?_
  rintro e w2 ⟨x, hxx, _, rfl, hc2, hg2⟩
  have hx60 := hxx (by omega)
  go_wp2_with fail
  refine (recDrawn_any pc a len cap _ hc2).mono ?_
  rintro e w3 ⟨r, ⟨hok, hsl⟩, rfl, hc3, hg3⟩
  have hz3 := (hg1.trans (hg2.trans hg3)).size
  have I : RcI pc a len cap w w3.heap.size #[.int .i64 r.kind, .int .i64 r.valid, .int .i64 r.uid, .int .i64 r.next, .int .i64 r.flags, .string r.user, .string r.name, .string r.text] (w3.alloc (.cells #[.int .i64 r.kind, .int .i64 r.valid, .int .i64 r.uid, .int .i64 r.next, .int .i64 r.flags, .string r.user, .string r.name, .string r.text] 47)) :=
    ⟨hc3.alloc _, (hg0.trans (hg1.trans (hg2.trans hg3))).trans (World.grownBy_alloc _ _ _), (hx.cur (hg1.trans (hg2.trans hg3)) (by omega)).later (belNew _ _), Box.new w3 _ _, by omega, by omega, hpc⟩
  have HC := Lib.hid hc
  have HS := Lib.hid hsl
  have HV : Hid (0 ≤ r.valid ∧ r.valid ≤ 10000) := by have h9 := hok.2.1; exact ⟨by omega, by omega⟩
  clear hok hk hxx hx hg0 hg1 hg2 hg3 hc0 hc1 hc2 hc3 hz0 hc hsl
  unfold Rc.v
  go_upto_region 4 with fail
  generalize w3.alloc (.cells #[.int .i64 r.kind, .int .i64 r.valid, .int .i64 r.uid, .int .i64 r.next, .int .i64 r.flags, .string r.user, .string r.name, .string r.text] 47) = X at I ⊢
  generalize w3.heap.size = b at I ⊢
  clear hz3
  obtain ⟨y0, y1, y2, y3, y4, y5, y6, y7, f0, f1, f2, f3, f4, f5, f6, f7⟩ := I.rcd.eight
  have hlt := I.lt
  have hneb : w.heap.size ≠ b := by omega
  have hneb' : b ≠ w.heap.size := by omega
  clear hlt
  rcases (show k = 0 ∨ k = 1 ∨ k = 2 ∨ k = 3 ∨ k = 4 ∨ k = 5 ∨ k = 6 ∨ (k ≠ 0 ∧ k ≠ 1 ∧ k ≠ 2 ∧ k ≠ 3 ∧ k ≠ 4 ∧ k ≠ 5 ∧ k ≠ 6) by omega) with rfl | rfl | rfl | rfl | rfl | rfl | rfl | ⟨n0, n1, n2, n3, n4, n5, n6⟩
  · go_upto_region 19 with fail
    replace I : RcI pc a len cap w b #[.int .i64 ((x : Int) % 7), .int .i64 r.valid, .int .i64 r.uid, .int .i64 r.next, .int .i64 r.flags, .string r.user, .string r.name, .string r.text] _ := I.put HC.out 0 (.int .i64 ((x : Int) % 7))
    generalize X.setCell ⟨b, 0, none⟩ (.int .i64 ((x : Int) % 7)) = X2 at I ⊢
    clear y0 y1 y2 y3 y4 y5 y6 y7 f0 f1 f2 f3 f4 f5 f6 f7
    obtain ⟨d0, d1, d2, d3, d4, d5, d6, d7, g0, g1, g2, g3, g4, g5, g6, g7⟩ := I.res.eight
    obtain ⟨p0, p1, p2, p3, p4, p5, p6, p7, _⟩ := I.rcd.eight
    obtain ⟨q0, q1, q2, q3, q4, q5, q6, q7, _⟩ := (I.res.set8 (.int .i64 ((x : Int) % 7)) (.int .i64 r.valid) (.int .i64 r.uid) (.int .i64 r.next) (.int .i64 r.flags) (.string r.user) (.string r.name) (.string r.text)).eight
    unfold set8 at q0 q1 q2 q3 q4 q5 q6 q7
    have HF : Hid (Cur (set8 X2 w.heap.size (.int .i64 ((x : Int) % 7)) (.int .i64 r.valid) (.int .i64 r.uid) (.int .i64 r.next) (.int .i64 r.flags) (.string r.user) (.string r.name) (.string r.text)) pc a len cap ∧ w.grownBy (set8 X2 w.heap.size (.int .i64 ((x : Int) % 7)) (.int .i64 r.valid) (.int .i64 r.uid) (.int .i64 r.next) (.int .i64 r.flags) (.string r.user) (.string r.name) (.string r.text)) (some pc)) := ⟨I.cur.new8 HC.out (Nat.le_refl _) _ _ _ _ _ _ _ _, grownBy_new8 I.grown (Nat.le_refl _) _ _ _ _ _ _ _ _⟩
    clear I
    go_wp2
    refine bodyPost_ret (v := Rc.v ⟨((x : Int) % 7), r.valid, r.uid, r.next, r.flags, r.user, r.name, r.text⟩) (by simp [results, Tryz.results65, go_sem, q0, q1, q2, q3, q4, q5, q6, q7, Rc.v]) rfl ?_
    exact ⟨⟨((x : Int) % 7), r.valid, r.uid, r.next, r.flags, r.user, r.name, r.text⟩, ⟨HS.out, HV.out⟩, rfl, HF.out.1, HF.out.2⟩
  · obtain ⟨i, hxi⟩ : ∃ i : Nat, x % 3 = i := ⟨_, rfl⟩
    have hi : i < 3 := by omega
    have hxm : (x : Int) % 3 = (i : Int) := by omega
    have hi2 : (i : Int) < 3 := by omega
    have hcl := ints_cell' X [0, 9999, 10000] 3 i hi
    simp only [List.map_cons, List.map_nil] at hcl
    have hyb : 0 ≤ ([0, 9999, 10000] : List Int)[i]'hi ∧ ([0, 9999, 10000] : List Int)[i]'hi ≤ 10000 := by
      rcases (show i = 0 ∨ i = 1 ∨ i = 2 by omega) with rfl | rfl | rfl <;> simp
    generalize ([0, 9999, 10000] : List Int)[i]'hi = yv at hcl hyb
    have HYB := Lib.hid hyb
    clear hyb
    clear hxi
    replace I := I.later (belNew X (.cells #[.int .i64 0, .int .i64 9999, .int .i64 10000] 3))
    clear y0 y1 y2 y3 y4 y5 y6 y7 f0 f1 f2 f3 f4 f5 f6 f7
    obtain ⟨y0, y1, y2, y3, y4, y5, y6, y7, f0, f1, f2, f3, f4, f5, f6, f7⟩ := I.rcd.eight
    go_upto_region 19 with fail
    replace I : RcI pc a len cap w b #[.int .i64 r.kind, .int .i64 yv, .int .i64 r.uid, .int .i64 r.next, .int .i64 r.flags, .string r.user, .string r.name, .string r.text] _ := I.put HC.out 1 (.int .i64 yv)
    generalize (X.alloc (.cells #[.int .i64 0, .int .i64 9999, .int .i64 10000] 3)).setCell ⟨b, 1, none⟩ (.int .i64 yv) = X2 at I ⊢
    clear y0 y1 y2 y3 y4 y5 y6 y7 f0 f1 f2 f3 f4 f5 f6 f7
    obtain ⟨d0, d1, d2, d3, d4, d5, d6, d7, g0, g1, g2, g3, g4, g5, g6, g7⟩ := I.res.eight
    obtain ⟨p0, p1, p2, p3, p4, p5, p6, p7, _⟩ := I.rcd.eight
    obtain ⟨q0, q1, q2, q3, q4, q5, q6, q7, _⟩ := (I.res.set8 (.int .i64 r.kind) (.int .i64 yv) (.int .i64 r.uid) (.int .i64 r.next) (.int .i64 r.flags) (.string r.user) (.string r.name) (.string r.text)).eight
    unfold set8 at q0 q1 q2 q3 q4 q5 q6 q7
    have HF : Hid (Cur (set8 X2 w.heap.size (.int .i64 r.kind) (.int .i64 yv) (.int .i64 r.uid) (.int .i64 r.next) (.int .i64 r.flags) (.string r.user) (.string r.name) (.string r.text)) pc a len cap ∧ w.grownBy (set8 X2 w.heap.size (.int .i64 r.kind) (.int .i64 yv) (.int .i64 r.uid) (.int .i64 r.next) (.int .i64 r.flags) (.string r.user) (.string r.name) (.string r.text)) (some pc)) := ⟨I.cur.new8 HC.out (Nat.le_refl _) _ _ _ _ _ _ _ _, grownBy_new8 I.grown (Nat.le_refl _) _ _ _ _ _ _ _ _⟩
    clear I
    go_wp2
    refine bodyPost_ret (v := Rc.v ⟨r.kind, yv, r.uid, r.next, r.flags, r.user, r.name, r.text⟩) (by simp [results, Tryz.results65, go_sem, q0, q1, q2, q3, q4, q5, q6, q7, Rc.v]) rfl ?_
    exact ⟨⟨r.kind, yv, r.uid, r.next, r.flags, r.user, r.name, r.text⟩, ⟨HS.out, HYB.out⟩, rfl, HF.out.1, HF.out.2⟩
  · obtain ⟨i, hxi⟩ : ∃ i : Nat, x % 4 = i := ⟨_, rfl⟩
    have hi : i < 4 := by omega
    have hxm : (x : Int) % 4 = (i : Int) := by omega
    have hi2 : (i : Int) < 4 := by omega
    have hcl := ints_cell' X [0, 9999, 10000, (-1)] 3 i hi
    simp only [List.map_cons, List.map_nil] at hcl
    generalize ([0, 9999, 10000, (-1)] : List Int)[i]'hi = yv at hcl
    clear hxi
    replace I := I.later (belNew X (.cells #[.int .i64 0, .int .i64 9999, .int .i64 10000, .int .i64 (-1)] 3))
    clear y0 y1 y2 y3 y4 y5 y6 y7 f0 f1 f2 f3 f4 f5 f6 f7
    obtain ⟨y0, y1, y2, y3, y4, y5, y6, y7, f0, f1, f2, f3, f4, f5, f6, f7⟩ := I.rcd.eight
    go_upto_region 19 with fail
    replace I : RcI pc a len cap w b #[.int .i64 r.kind, .int .i64 r.valid, .int .i64 yv, .int .i64 r.next, .int .i64 r.flags, .string r.user, .string r.name, .string r.text] _ := I.put HC.out 2 (.int .i64 yv)
    generalize (X.alloc (.cells #[.int .i64 0, .int .i64 9999, .int .i64 10000, .int .i64 (-1)] 3)).setCell ⟨b, 2, none⟩ (.int .i64 yv) = X2 at I ⊢
    clear y0 y1 y2 y3 y4 y5 y6 y7 f0 f1 f2 f3 f4 f5 f6 f7
    obtain ⟨d0, d1, d2, d3, d4, d5, d6, d7, g0, g1, g2, g3, g4, g5, g6, g7⟩ := I.res.eight
    obtain ⟨p0, p1, p2, p3, p4, p5, p6, p7, _⟩ := I.rcd.eight
    obtain ⟨q0, q1, q2, q3, q4, q5, q6, q7, _⟩ := (I.res.set8 (.int .i64 r.kind) (.int .i64 r.valid) (.int .i64 yv) (.int .i64 r.next) (.int .i64 r.flags) (.string r.user) (.string r.name) (.string r.text)).eight
    unfold set8 at q0 q1 q2 q3 q4 q5 q6 q7
    have HF : Hid (Cur (set8 X2 w.heap.size (.int .i64 r.kind) (.int .i64 r.valid) (.int .i64 yv) (.int .i64 r.next) (.int .i64 r.flags) (.string r.user) (.string r.name) (.string r.text)) pc a len cap ∧ w.grownBy (set8 X2 w.heap.size (.int .i64 r.kind) (.int .i64 r.valid) (.int .i64 yv) (.int .i64 r.next) (.int .i64 r.flags) (.string r.user) (.string r.name) (.string r.text)) (some pc)) := ⟨I.cur.new8 HC.out (Nat.le_refl _) _ _ _ _ _ _ _ _, grownBy_new8 I.grown (Nat.le_refl _) _ _ _ _ _ _ _ _⟩
    clear I
    go_wp2
    refine bodyPost_ret (v := Rc.v ⟨r.kind, r.valid, yv, r.next, r.flags, r.user, r.name, r.text⟩) (by simp [results, Tryz.results65, go_sem, q0, q1, q2, q3, q4, q5, q6, q7, Rc.v]) rfl ?_
    exact ⟨⟨r.kind, r.valid, yv, r.next, r.flags, r.user, r.name, r.text⟩, ⟨HS.out, HV.out⟩, rfl, HF.out.1, HF.out.2⟩
  · go_upto_region 19 with fail
    replace I : RcI pc a len cap w b #[.int .i64 r.kind, .int .i64 r.valid, .int .i64 r.uid, .int .i64 r.next, .int .i64 ((x : Int) % 10 - 1), .string r.user, .string r.name, .string r.text] _ := I.put HC.out 4 (.int .i64 ((x : Int) % 10 - 1))
    generalize X.setCell ⟨b, 4, none⟩ (.int .i64 ((x : Int) % 10 - 1)) = X2 at I ⊢
    clear y0 y1 y2 y3 y4 y5 y6 y7 f0 f1 f2 f3 f4 f5 f6 f7
    obtain ⟨d0, d1, d2, d3, d4, d5, d6, d7, g0, g1, g2, g3, g4, g5, g6, g7⟩ := I.res.eight
    obtain ⟨p0, p1, p2, p3, p4, p5, p6, p7, _⟩ := I.rcd.eight
    obtain ⟨q0, q1, q2, q3, q4, q5, q6, q7, _⟩ := (I.res.set8 (.int .i64 r.kind) (.int .i64 r.valid) (.int .i64 r.uid) (.int .i64 r.next) (.int .i64 ((x : Int) % 10 - 1)) (.string r.user) (.string r.name) (.string r.text)).eight
    unfold set8 at q0 q1 q2 q3 q4 q5 q6 q7
    have HF : Hid (Cur (set8 X2 w.heap.size (.int .i64 r.kind) (.int .i64 r.valid) (.int .i64 r.uid) (.int .i64 r.next) (.int .i64 ((x : Int) % 10 - 1)) (.string r.user) (.string r.name) (.string r.text)) pc a len cap ∧ w.grownBy (set8 X2 w.heap.size (.int .i64 r.kind) (.int .i64 r.valid) (.int .i64 r.uid) (.int .i64 r.next) (.int .i64 ((x : Int) % 10 - 1)) (.string r.user) (.string r.name) (.string r.text)) (some pc)) := ⟨I.cur.new8 HC.out (Nat.le_refl _) _ _ _ _ _ _ _ _, grownBy_new8 I.grown (Nat.le_refl _) _ _ _ _ _ _ _ _⟩
    clear I
    go_wp2
    refine bodyPost_ret (v := Rc.v ⟨r.kind, r.valid, r.uid, r.next, ((x : Int) % 10 - 1), r.user, r.name, r.text⟩) (by simp [results, Tryz.results65, go_sem, q0, q1, q2, q3, q4, q5, q6, q7, Rc.v]) rfl ?_
    exact ⟨⟨r.kind, r.valid, r.uid, r.next, ((x : Int) % 10 - 1), r.user, r.name, r.text⟩, ⟨HS.out, HV.out⟩, rfl, HF.out.1, HF.out.2⟩
  · obtain ⟨i, hxi⟩ : ∃ i : Nat, x % 3 = i := ⟨_, rfl⟩
    have hi : i < 3 := by omega
    have hxm : (x : Int) % 3 = (i : Int) := by omega
    have hi2 : (i : Int) < 3 := by omega
    have hcl := strs_cell' X [⟨#[]⟩, ⟨#[65]⟩, ⟨#[110, 105, 110, 101, 98, 121, 116, 101, 115]⟩] 9 i hi
    simp only [List.map_cons, List.map_nil] at hcl
    have HY : Hid ((([⟨#[]⟩, ⟨#[65]⟩, ⟨#[110, 105, 110, 101, 98, 121, 116, 101, 115]⟩] : List ByteArray)[i]'hi).size ≤ 200) := by
      have hall : ∀ y ∈ ([⟨#[]⟩, ⟨#[65]⟩, ⟨#[110, 105, 110, 101, 98, 121, 116, 101, 115]⟩] : List ByteArray), y.size ≤ 200 := by decide
      exact hall _ (List.getElem_mem _)
    generalize ([⟨#[]⟩, ⟨#[65]⟩, ⟨#[110, 105, 110, 101, 98, 121, 116, 101, 115]⟩] : List ByteArray)[i]'hi = yv at hcl HY
    clear hxi
    replace I := I.later (belNew X (.cells #[.string ⟨#[]⟩, .string ⟨#[65]⟩, .string ⟨#[110, 105, 110, 101, 98, 121, 116, 101, 115]⟩] 9))
    clear y0 y1 y2 y3 y4 y5 y6 y7 f0 f1 f2 f3 f4 f5 f6 f7
    obtain ⟨y0, y1, y2, y3, y4, y5, y6, y7, f0, f1, f2, f3, f4, f5, f6, f7⟩ := I.rcd.eight
    go_upto_region 19 with fail
    replace I : RcI pc a len cap w b #[.int .i64 r.kind, .int .i64 r.valid, .int .i64 r.uid, .int .i64 r.next, .int .i64 r.flags, .string yv, .string r.name, .string r.text] _ := I.put HC.out 5 (.string yv)
    generalize (X.alloc (.cells #[.string ⟨#[]⟩, .string ⟨#[65]⟩, .string ⟨#[110, 105, 110, 101, 98, 121, 116, 101, 115]⟩] 9)).setCell ⟨b, 5, none⟩ (.string yv) = X2 at I ⊢
    clear y0 y1 y2 y3 y4 y5 y6 y7 f0 f1 f2 f3 f4 f5 f6 f7
    obtain ⟨d0, d1, d2, d3, d4, d5, d6, d7, g0, g1, g2, g3, g4, g5, g6, g7⟩ := I.res.eight
    obtain ⟨p0, p1, p2, p3, p4, p5, p6, p7, _⟩ := I.rcd.eight
    obtain ⟨q0, q1, q2, q3, q4, q5, q6, q7, _⟩ := (I.res.set8 (.int .i64 r.kind) (.int .i64 r.valid) (.int .i64 r.uid) (.int .i64 r.next) (.int .i64 r.flags) (.string yv) (.string r.name) (.string r.text)).eight
    unfold set8 at q0 q1 q2 q3 q4 q5 q6 q7
    have HF : Hid (Cur (set8 X2 w.heap.size (.int .i64 r.kind) (.int .i64 r.valid) (.int .i64 r.uid) (.int .i64 r.next) (.int .i64 r.flags) (.string yv) (.string r.name) (.string r.text)) pc a len cap ∧ w.grownBy (set8 X2 w.heap.size (.int .i64 r.kind) (.int .i64 r.valid) (.int .i64 r.uid) (.int .i64 r.next) (.int .i64 r.flags) (.string yv) (.string r.name) (.string r.text)) (some pc)) := ⟨I.cur.new8 HC.out (Nat.le_refl _) _ _ _ _ _ _ _ _, grownBy_new8 I.grown (Nat.le_refl _) _ _ _ _ _ _ _ _⟩
    clear I
    go_wp2
    refine bodyPost_ret (v := Rc.v ⟨r.kind, r.valid, r.uid, r.next, r.flags, yv, r.name, r.text⟩) (by simp [results, Tryz.results65, go_sem, q0, q1, q2, q3, q4, q5, q6, q7, Rc.v]) rfl ?_
    exact ⟨⟨r.kind, r.valid, r.uid, r.next, r.flags, yv, r.name, r.text⟩, ⟨⟨HY.out, HS.out.2.1, HS.out.2.2⟩, HV.out⟩, rfl, HF.out.1, HF.out.2⟩
  · go_upto_region 19 with fail
    have hn2 : 100 + (x : Int) % 2 = ((100 + x % 2 : Nat) : Int) := by omega
    have hn3 : 100 + x % 2 ≤ 101 := by omega
    rw [hn2]
    refine (long_any (100 + x % 2) 97 _ (by omega)).mono ?_
    rintro e w5 ⟨rfl, k5⟩
    have HL : Hid ((⟨(List.replicate (100 + x % 2) 97).toArray⟩ : ByteArray).size ≤ 200) := by
      show _ ≤ _
      rw [← tl_len]; simp; omega
    generalize (⟨(List.replicate (100 + x % 2) 97).toArray⟩ : ByteArray) = tv at HL ⊢
    clear hn2 hn3
    replace I := I.later k5
    clear y0 y1 y2 y3 y4 y5 y6 y7 f0 f1 f2 f3 f4 f5 f6 f7
    obtain ⟨y0, y1, y2, y3, y4, y5, y6, y7, f0, f1, f2, f3, f4, f5, f6, f7⟩ := I.rcd.eight
    go_upto_region 19 with fail
    replace I : RcI pc a len cap w b #[.int .i64 r.kind, .int .i64 r.valid, .int .i64 r.uid, .int .i64 r.next, .int .i64 r.flags, .string r.user, .string r.name, .string tv] _ := I.put HC.out 7 (.string tv)
    generalize w5.setCell ⟨b, 7, none⟩ (.string tv) = X2 at I ⊢
    clear y0 y1 y2 y3 y4 y5 y6 y7 f0 f1 f2 f3 f4 f5 f6 f7
    obtain ⟨d0, d1, d2, d3, d4, d5, d6, d7, g0, g1, g2, g3, g4, g5, g6, g7⟩ := I.res.eight
    obtain ⟨p0, p1, p2, p3, p4, p5, p6, p7, _⟩ := I.rcd.eight
    obtain ⟨q0, q1, q2, q3, q4, q5, q6, q7, _⟩ := (I.res.set8 (.int .i64 r.kind) (.int .i64 r.valid) (.int .i64 r.uid) (.int .i64 r.next) (.int .i64 r.flags) (.string r.user) (.string r.name) (.string tv)).eight
    unfold set8 at q0 q1 q2 q3 q4 q5 q6 q7
    have HF : Hid (Cur (set8 X2 w.heap.size (.int .i64 r.kind) (.int .i64 r.valid) (.int .i64 r.uid) (.int .i64 r.next) (.int .i64 r.flags) (.string r.user) (.string r.name) (.string tv)) pc a len cap ∧ w.grownBy (set8 X2 w.heap.size (.int .i64 r.kind) (.int .i64 r.valid) (.int .i64 r.uid) (.int .i64 r.next) (.int .i64 r.flags) (.string r.user) (.string r.name) (.string tv)) (some pc)) := ⟨I.cur.new8 HC.out (Nat.le_refl _) _ _ _ _ _ _ _ _, grownBy_new8 I.grown (Nat.le_refl _) _ _ _ _ _ _ _ _⟩
    clear I
    go_wp2
    refine bodyPost_ret (v := Rc.v ⟨r.kind, r.valid, r.uid, r.next, r.flags, r.user, r.name, tv⟩) (by simp [results, Tryz.results65, go_sem, q0, q1, q2, q3, q4, q5, q6, q7, Rc.v]) rfl ?_
    exact ⟨⟨r.kind, r.valid, r.uid, r.next, r.flags, r.user, r.name, tv⟩, ⟨⟨HS.out.1, HS.out.2.1, HL.out⟩, HV.out⟩, rfl, HF.out.1, HF.out.2⟩
  · go_upto_region 19 with fail
    replace I : RcI pc a len cap w b #[.int .i64 r.kind, .int .i64 r.valid, .int .i64 r.uid, .int .i64 ((x : Int) % 4), .int .i64 r.flags, .string r.user, .string r.name, .string r.text] _ := I.put HC.out 3 (.int .i64 ((x : Int) % 4))
    generalize X.setCell ⟨b, 3, none⟩ (.int .i64 ((x : Int) % 4)) = X2 at I ⊢
    clear y0 y1 y2 y3 y4 y5 y6 y7 f0 f1 f2 f3 f4 f5 f6 f7
    obtain ⟨d0, d1, d2, d3, d4, d5, d6, d7, g0, g1, g2, g3, g4, g5, g6, g7⟩ := I.res.eight
    obtain ⟨p0, p1, p2, p3, p4, p5, p6, p7, _⟩ := I.rcd.eight
    obtain ⟨q0, q1, q2, q3, q4, q5, q6, q7, _⟩ := (I.res.set8 (.int .i64 r.kind) (.int .i64 r.valid) (.int .i64 r.uid) (.int .i64 ((x : Int) % 4)) (.int .i64 r.flags) (.string r.user) (.string r.name) (.string r.text)).eight
    unfold set8 at q0 q1 q2 q3 q4 q5 q6 q7
    have HF : Hid (Cur (set8 X2 w.heap.size (.int .i64 r.kind) (.int .i64 r.valid) (.int .i64 r.uid) (.int .i64 ((x : Int) % 4)) (.int .i64 r.flags) (.string r.user) (.string r.name) (.string r.text)) pc a len cap ∧ w.grownBy (set8 X2 w.heap.size (.int .i64 r.kind) (.int .i64 r.valid) (.int .i64 r.uid) (.int .i64 ((x : Int) % 4)) (.int .i64 r.flags) (.string r.user) (.string r.name) (.string r.text)) (some pc)) := ⟨I.cur.new8 HC.out (Nat.le_refl _) _ _ _ _ _ _ _ _, grownBy_new8 I.grown (Nat.le_refl _) _ _ _ _ _ _ _ _⟩
    clear I
    go_wp2
    refine bodyPost_ret (v := Rc.v ⟨r.kind, r.valid, r.uid, ((x : Int) % 4), r.flags, r.user, r.name, r.text⟩) (by simp [results, Tryz.results65, go_sem, q0, q1, q2, q3, q4, q5, q6, q7, Rc.v]) rfl ?_
    exact ⟨⟨r.kind, r.valid, r.uid, ((x : Int) % 4), r.flags, r.user, r.name, r.text⟩, ⟨HS.out, HV.out⟩, rfl, HF.out.1, HF.out.2⟩
  · have m0 : ((k : Int) == 0) = false := beq_eq_false_iff_ne.2 (by omega)
    have m1 : ((k : Int) == 1) = false := beq_eq_false_iff_ne.2 (by omega)
    have m2 : ((k : Int) == 2) = false := beq_eq_false_iff_ne.2 (by omega)
    have m3 : ((k : Int) == 3) = false := beq_eq_false_iff_ne.2 (by omega)
    have m4 : ((k : Int) == 4) = false := beq_eq_false_iff_ne.2 (by omega)
    have m5 : ((k : Int) == 5) = false := beq_eq_false_iff_ne.2 (by omega)
    have m6 : ((k : Int) == 6) = false := beq_eq_false_iff_ne.2 (by omega)
    go_upto_region 19 with fail
    clear y0 y1 y2 y3 y4 y5 y6 y7 f0 f1 f2 f3 f4 f5 f6 f7
    obtain ⟨d0, d1, d2, d3, d4, d5, d6, d7, g0, g1, g2, g3, g4, g5, g6, g7⟩ := I.res.eight
    obtain ⟨p0, p1, p2, p3, p4, p5, p6, p7, _⟩ := I.rcd.eight
    obtain ⟨q0, q1, q2, q3, q4, q5, q6, q7, _⟩ := (I.res.set8 (.int .i64 r.kind) (.int .i64 r.valid) (.int .i64 r.uid) (.int .i64 r.next) (.int .i64 r.flags) (.string r.user) (.string r.name) (.string r.text)).eight
    unfold set8 at q0 q1 q2 q3 q4 q5 q6 q7
    have HF : Hid (Cur (set8 X w.heap.size (.int .i64 r.kind) (.int .i64 r.valid) (.int .i64 r.uid) (.int .i64 r.next) (.int .i64 r.flags) (.string r.user) (.string r.name) (.string r.text)) pc a len cap ∧ w.grownBy (set8 X w.heap.size (.int .i64 r.kind) (.int .i64 r.valid) (.int .i64 r.uid) (.int .i64 r.next) (.int .i64 r.flags) (.string r.user) (.string r.name) (.string r.text)) (some pc)) := ⟨I.cur.new8 HC.out (Nat.le_refl _) _ _ _ _ _ _ _ _, grownBy_new8 I.grown (Nat.le_refl _) _ _ _ _ _ _ _ _⟩
    clear I
    go_wp2
    refine bodyPost_ret (v := Rc.v ⟨r.kind, r.valid, r.uid, r.next, r.flags, r.user, r.name, r.text⟩) (by simp [results, Tryz.results65, go_sem, q0, q1, q2, q3, q4, q5, q6, q7, Rc.v]) rfl ?_
    exact ⟨⟨r.kind, r.valid, r.uid, r.next, r.flags, r.user, r.name, r.text⟩, ⟨HS.out, HV.out⟩, rfl, HF.out.1, HF.out.2⟩

def sliceLen (v : Value) : Nat := match v with
  | .slice _ n _ => n
  | _ => 0
/-- Items of whatever make that are drawn. -/
def ItsA (n : Nat) (l : List Itm) : Prop := l.length ≤ n ∧ ∀ x ∈ l, x.2.tame
theorem ItsD.any {l : List Itm} (h : ItsD l) : ItsA 23 l := ⟨h.2.1, fun x hx => ⟨h.2.2 x hx, by have := (h.1.1 x hx).2.2.1; omega, by have := (h.1.1 x hx).2.2.1; omega⟩⟩
theorem ItsA.push {n : Nat} {l : List Itm} (h : ItsA n l) {x : Itm} (hx : x.2.tame) : ItsA (n + 1) (l ++ [x]) := ⟨by have := h.1; simp; omega, fun y hy => by
  rcases List.mem_append.1 hy with h1 | h1
  · exact h.2 y h1
  · simp at h1; rw [h1]; exact hx⟩
theorem ItsA.mono {n m : Nat} {l : List Itm} (h : ItsA n l) (hm : n ≤ m) : ItsA m l := ⟨Nat.le_trans h.1 hm, h.2⟩
theorem tame7 : Rc.tame ⟨2, 7, 0, 0, 0, ⟨#[]⟩, ⟨#[]⟩, ⟨#[]⟩⟩ := by
  refine ⟨⟨?_, ?_, ?_⟩, ?_, ?_⟩ <;> decide

set_option maxRecDepth 100000 in
set_option maxHeartbeats 4000000 in
theorem itemsAny_any (pc : Nat) (a : Option Addr) (len cap : Nat) (w : World) (hc : Cur w pc a len cap) :
    Calls Tryz.prog 46 #[.pointer (some ⟨pc, 0, none⟩)] w fun e w' => ∃ (l : List Itm) (v : Value), ItsA 300 l ∧ e = .returned v ∧ RBuf itE w.heap.size w' w' v l ∧ Cur w' pc a len cap ∧ w.grownBy w' (some pc) := by
  have hpc := hc.lt
  have hcl := Lib.hid hc.codeLt
  go_enter Tryz.func46, Tryz.ntmps46
  go_wp2_with fail
  refine (below_any 14 pc a len cap _ hc (by omega)).mono ?_
  rintro e w1 ⟨k, hk, _, rfl, hc1, hg1⟩
  have hk2 := hk (by omega)
  clear hk
  go_wp2_with fail
  refine (below_any 60 pc a len cap _ hc1 (by omega)).mono ?_
  rintro e w2 ⟨x, hx, _, rfl, hc2, hg2⟩
  have hx2 := hx (by omega)
  clear hx
  have g2 := hg1.trans hg2
  have hz2 : w.heap.size ≤ w2.heap.size := g2.size
  have hs2 : RBuf itE w2.heap.size w2 (w2.alloc (.cells #[] 49)) (.slice (some ⟨w2.heap.size, 0, none⟩) 0 0) [] := RBuf.fresh itE w2
  have hc3 := hc2.alloc (.cells #[] 49)
  have g3 := g2.trans (World.grownBy_alloc w2 (.cells #[] 49) (some pc))
  have hpc2 : pc < w2.heap.size := by omega
  clear hc hc1 hc2 hg1 hg2 g2
  go_upto_region 3 with fail
  go_cut [5] (fun v wx => ∃ (y : World) (l : List Itm), y = wx ∧ ItsD l ∧ RBuf itE w.heap.size y y v l ∧ Cur y pc a len cap ∧ w.grownBy y (some pc))
  case first =>
    go_wp2_with fail
    refine (items_any pc a len cap _ hc3).mono ?_
    rintro e w4 ⟨l, v4, hl, rfl, R4, _, hc4, hg4⟩
    have E4 := hs2.here.cursor hg4 hpc2
    have g4 := g3.trans hg4
    obtain ⟨a4, c4, rfl⟩ := R4.form
    have HE := Lib.hid E4
    have HM := Lib.hid R4.rows
    have HD := Lib.hid hl
    have hll := hl.2.1
    clear hl hs2 hc3 g3 hg4 E4 R4
    go_wp2_with (at_builtin; refine wpList_append_rd rfl _ _ itE rfl w2.heap.size _ [] rfl HE.out _ l rfl HM.out (by show _ * 97 ≤ _; simp only [List.length_nil]; omega) ?_; intro v5 w5 r5 g5 _)
    rw [List.nil_append] at r5
    have b5 : Below w.heap.size w4 w5 := (Below.refl _ _).grown g5 (by have := g4.size; omega) (fun q hq => by have h9 : w2.heap.size = q := Option.some.inj hq; omega)
    go_meet
    exact ⟨_, l, rfl, HD.out, r5.lower hz2, hc4.below b5 hpc hcl.out, grownBy_below g4 b5 (Nat.le_refl _)⟩
  case rest =>
  obtain ⟨w5, l, hw5, hl, R5, hc5, g5⟩ := hcut
  subst hw5
  have HD := Lib.hid hl.any
  have hll := hl.any.1
  clear hl hs2 hc3 g3
  obtain ⟨a5, c5, rfl⟩ := R5.form
  have HL5 : Hid (l.length ≤ 23) := hll
  rcases (show k = 0 ∨ k = 1 ∨ k = 2 ∨ k = 3 ∨ (k ≠ 0 ∧ k ≠ 1 ∧ k ≠ 2 ∧ k ≠ 3) by omega) with rfl | rfl | rfl | rfl | ⟨n0, n1, n2, n3⟩
  · skip
    go_wp2_with fail
    refine (recDrawn_any pc a len cap _ hc5).mono ?_
    rintro e w6 ⟨r, hr, rfl, hc6, hg6⟩
    have HRr := Lib.hid hr
    have g6 := g5.trans hg6
    have R6 := R5.cursor hg6 hpc
    have hb7 := Lib.hid (R6.alloc (.cells #[.int .i64 2, .int .i64 r.kind, .int .i64 r.valid, .int .i64 r.uid, .int .i64 r.next, .int .i64 r.flags, .string r.user, .string r.name, .string r.text] 49))
    have hL7 := Lib.hid (RBuf.lit1 itE w6 ((2, r) : Itm))
    have hc7 := hc6.alloc (.cells #[.int .i64 2, .int .i64 r.kind, .int .i64 r.valid, .int .i64 r.uid, .int .i64 r.next, .int .i64 r.flags, .string r.user, .string r.name, .string r.text] 49)
    have g7 := g6.trans (World.grownBy_alloc w6 (.cells #[.int .i64 2, .int .i64 r.kind, .int .i64 r.valid, .int .i64 r.uid, .int .i64 r.next, .int .i64 r.flags, .string r.user, .string r.name, .string r.text] 49) (some pc))
    have hle6 := R6.le
    clear hr hg6 hc5 R5 g5 hc6 g6
    unfold Rc.v
    go_wp2_with (at_builtin; refine wpList_append_rows rfl _ _ itE rfl w.heap.size _ l rfl hb7.out.here w6.heap.size _ [((2, r) : Itm)] rfl hL7.out (by show _ * 97 ≤ _; simp only [List.length_cons, List.length_nil]; omega) ?_; intro v8 w8 r8 g8 at8)
    go_ret
    have b8 : Below w.heap.size (w6.alloc (.cells #[.int .i64 2, .int .i64 r.kind, .int .i64 r.valid, .int .i64 r.uid, .int .i64 r.next, .int .i64 r.flags, .string r.user, .string r.name, .string r.text] 49)) w8 := (Below.refl _ _).grown g8 (by simp; omega) (fun q hq => (R6.own.lt q hq).1)
    exact ⟨l ++ [(2, r)], v8, HD.out.push (Rc.ok_tame HRr.out) |>.mono (by omega), rfl, r8, hc7.below b8 hpc hcl.out, grownBy_below g7 b8 (Nat.le_refl _)⟩
  · skip
    go_wp2_with fail
    refine (recTame_any pc a len cap _ hc5).mono ?_
    rintro e w6 ⟨r, hr, rfl, hc6, hg6⟩
    have HRr := Lib.hid hr
    have g6 := g5.trans hg6
    have R6 := R5.cursor hg6 hpc
    have hb7 := Lib.hid (R6.alloc (.cells #[.int .i64 99, .int .i64 r.kind, .int .i64 r.valid, .int .i64 r.uid, .int .i64 r.next, .int .i64 r.flags, .string r.user, .string r.name, .string r.text] 49))
    have hL7 := Lib.hid (RBuf.lit1 itE w6 ((99, r) : Itm))
    have hc7 := hc6.alloc (.cells #[.int .i64 99, .int .i64 r.kind, .int .i64 r.valid, .int .i64 r.uid, .int .i64 r.next, .int .i64 r.flags, .string r.user, .string r.name, .string r.text] 49)
    have g7 := g6.trans (World.grownBy_alloc w6 (.cells #[.int .i64 99, .int .i64 r.kind, .int .i64 r.valid, .int .i64 r.uid, .int .i64 r.next, .int .i64 r.flags, .string r.user, .string r.name, .string r.text] 49) (some pc))
    have hle6 := R6.le
    clear hr hg6 hc5 R5 g5 hc6 g6
    unfold Rc.v
    go_wp2_with (at_builtin; refine wpList_append_rows rfl _ _ itE rfl w.heap.size _ l rfl hb7.out.here w6.heap.size _ [((99, r) : Itm)] rfl hL7.out (by show _ * 97 ≤ _; simp only [List.length_cons, List.length_nil]; omega) ?_; intro v8 w8 r8 g8 at8)
    go_ret
    have b8 : Below w.heap.size (w6.alloc (.cells #[.int .i64 99, .int .i64 r.kind, .int .i64 r.valid, .int .i64 r.uid, .int .i64 r.next, .int .i64 r.flags, .string r.user, .string r.name, .string r.text] 49)) w8 := (Below.refl _ _).grown g8 (by simp; omega) (fun q hq => (R6.own.lt q hq).1)
    exact ⟨l ++ [(99, r)], v8, HD.out.push HRr.out |>.mono (by omega), rfl, r8, hc7.below b8 hpc hcl.out, grownBy_below g7 b8 (Nat.le_refl _)⟩
  · skip
    go_wp2_with fail
    refine (recDrawn_any pc a len cap _ hc5).mono ?_
    rintro e w6 ⟨r, hr, rfl, hc6, hg6⟩
    have HRr := Lib.hid hr
    have g6 := g5.trans hg6
    have R6 := R5.cursor hg6 hpc
    have hb7 := Lib.hid (R6.alloc (.cells #[.int .i64 0, .int .i64 r.kind, .int .i64 r.valid, .int .i64 r.uid, .int .i64 r.next, .int .i64 r.flags, .string r.user, .string r.name, .string r.text] 49))
    have hL7 := Lib.hid (RBuf.lit1 itE w6 ((0, r) : Itm))
    have hc7 := hc6.alloc (.cells #[.int .i64 0, .int .i64 r.kind, .int .i64 r.valid, .int .i64 r.uid, .int .i64 r.next, .int .i64 r.flags, .string r.user, .string r.name, .string r.text] 49)
    have g7 := g6.trans (World.grownBy_alloc w6 (.cells #[.int .i64 0, .int .i64 r.kind, .int .i64 r.valid, .int .i64 r.uid, .int .i64 r.next, .int .i64 r.flags, .string r.user, .string r.name, .string r.text] 49) (some pc))
    have hle6 := R6.le
    clear hr hg6 hc5 R5 g5 hc6 g6
    unfold Rc.v
    go_wp2_with (at_builtin; refine wpList_append_rows rfl _ _ itE rfl w.heap.size _ l rfl hb7.out.here w6.heap.size _ [((0, r) : Itm)] rfl hL7.out (by show _ * 97 ≤ _; simp only [List.length_cons, List.length_nil]; omega) ?_; intro v8 w8 r8 g8 at8)
    go_ret
    have b8 : Below w.heap.size (w6.alloc (.cells #[.int .i64 0, .int .i64 r.kind, .int .i64 r.valid, .int .i64 r.uid, .int .i64 r.next, .int .i64 r.flags, .string r.user, .string r.name, .string r.text] 49)) w8 := (Below.refl _ _).grown g8 (by simp; omega) (fun q hq => (R6.own.lt q hq).1)
    exact ⟨l ++ [(0, r)], v8, HD.out.push (Rc.ok_tame HRr.out) |>.mono (by omega), rfl, r8, hc7.below b8 hpc hcl.out, grownBy_below g7 b8 (Nat.le_refl _)⟩
  · have hxm : (0 : Int) ≤ Int.tmod (x : Int) 3 ∧ Int.tmod (x : Int) 3 ≤ 2 := by rw [Int.tmod_eq_emod_of_nonneg (by omega)]; omega
    have hxe : Int.tmod (x : Int) 3 = (x : Int) % 3 := Int.tmod_eq_emod_of_nonneg (by omega)
    rw [show ((3 : Nat) : Int) = 3 from rfl]
    go_wp2
    go_loopw [5] (fun v wr => ∃ m : List Itm, ItsA 300 m ∧ m.length ≤ 201 ∧ RBuf itE w.heap.size wr wr v m ∧ Cur wr pc a len cap ∧ w.grownBy wr (some pc)) (fun v _ => 300 - sliceLen v)
    case atStart => exact ⟨l, HD.out.mono (by omega), by omega, R5, hc5, g5⟩
    case round =>
      clear R5 hc5 g5
      obtain ⟨m, hA, hm, R, hcr, hgr⟩ := hrel
      have HA := Lib.hid hA
      clear hA
      obtain ⟨am, cm, rfl⟩ := R.form
      by_cases hlt : (m.length : Int) < 199 + (x : Int) % 3
      · have hb7 := Lib.hid (R.alloc (.cells #[.int .i64 (100 + (m.length : Int)), .int .i64 2, .int .i64 7, .int .i64 0, .int .i64 0, .int .i64 0, .string ⟨#[]⟩, .string ⟨#[]⟩, .string ⟨#[]⟩] 49))
        have hL7 := Lib.hid (RBuf.lit1 itE wr ((100 + (m.length : Int), ⟨2, 7, 0, 0, 0, ⟨#[]⟩, ⟨#[]⟩, ⟨#[]⟩⟩) : Itm))
        have hc7 := hcr.alloc (.cells #[.int .i64 (100 + (m.length : Int)), .int .i64 2, .int .i64 7, .int .i64 0, .int .i64 0, .int .i64 0, .string ⟨#[]⟩, .string ⟨#[]⟩, .string ⟨#[]⟩] 49)
        have g7 := hgr.trans (World.grownBy_alloc wr (.cells #[.int .i64 (100 + (m.length : Int)), .int .i64 2, .int .i64 7, .int .i64 0, .int .i64 0, .int .i64 0, .string ⟨#[]⟩, .string ⟨#[]⟩, .string ⟨#[]⟩] 49) (some pc))
        have HR := Lib.hid R
        clear hcr hgr R
        go_wp2_with (at_builtin; refine wpList_append_rows rfl _ _ itE rfl w.heap.size _ m rfl hb7.out.here wr.heap.size _ [((100 + (m.length : Int), ⟨2, 7, 0, 0, 0, ⟨#[]⟩, ⟨#[]⟩, ⟨#[]⟩⟩) : Itm)] rfl hL7.out (by show _ * 97 ≤ _; simp only [List.length_cons, List.length_nil]; omega) ?_; intro v8 w8 r8 g8 at8)
        have b8 : Below w.heap.size (wr.alloc (.cells #[.int .i64 (100 + (m.length : Int)), .int .i64 2, .int .i64 7, .int .i64 0, .int .i64 0, .int .i64 0, .string ⟨#[]⟩, .string ⟨#[]⟩, .string ⟨#[]⟩] 49)) w8 := (Below.refl _ _).grown g8 (by have := HR.out.le; simp; omega) (fun q hq => (HR.out.own.lt q hq).1)
        obtain ⟨a8, c8, rfl⟩ := r8.form
        go_roundw
        case rel => exact ⟨m ++ ([(100 + (m.length : Int), ⟨2, 7, 0, 0, 0, ⟨#[]⟩, ⟨#[]⟩, ⟨#[]⟩⟩)] : List Itm), ⟨by simp; omega, (HA.out.push (x := (100 + (m.length : Int), ⟨2, 7, 0, 0, 0, ⟨#[]⟩, ⟨#[]⟩, ⟨#[]⟩⟩)) tame7).2⟩, by simp; omega, r8, hc7.below b8 hpc hcl.out, grownBy_below g7 b8 (Nat.le_refl _)⟩
        case measure => simp [sliceLen]; omega
      · go_wp2
        go_ret
        exact ⟨m, HA.out, _, rfl, R, hcr, hgr⟩
  · go_wp2
    go_ret
    exact ⟨l, _, HD.out.mono (by omega), rfl, R5, hc5, g5⟩

end Go.Proofs.YtahebgceoidebaaGreat

/- What is drawn for the chapter on what is needed. -/
namespace Go.Proofs.YtahebgceoidebaaGreat
open Go.RowKit

set_option maxRecDepth 100000 in
theorem placeB_any (n : Int) (pc : Nat) (a : Option Addr) (len cap : Nat) (w : World) (hc : Cur w pc a len cap) (h0 : 0 ≤ n) (hn : n ≤ 1000000) :
    Calls Tryz.prog 45 #[.pointer (some ⟨pc, 0, none⟩), .int .i64 n] w fun e w' => ∃ x : Int, (-9223372036854775808 ≤ x ∧ x ≤ 9223372036854775807) ∧ e = .returned (.int .i64 x) ∧ Cur w' pc a len cap ∧ w.grownBy w' (some pc) := by
  go_enter Tryz.func45, Tryz.ntmps45
  go_wp2_with fail
  refine (once_any 15 pc a len cap _ hc (by omega)).mono ?_
  rintro e w1 ⟨he, hc1, hg1⟩
  rcases he with rfl | rfl
  · go_wp2_with fail
    refine (pickLit_any [-1, n, n + 1, 9223372036854775807, -9223372036854775808] 5 pc a len cap _ hc1 rfl (by omega) (by omega)).mono ?_
    rintro e w2 ⟨y, hy, rfl, hc2, hg2⟩
    have HY : Hid (-9223372036854775808 ≤ y ∧ y ≤ 9223372036854775807) := by
      simp only [List.mem_cons, List.not_mem_nil, or_false] at hy
      show _ ∧ _
      omega
    clear hy
    go_wp2
    go_ret
    exact ⟨y, HY.out, rfl, hc2, hg1.trans hg2⟩
  · go_wp2_with fail
    refine (below_any n pc a len cap _ hc1 (by omega)).mono ?_
    rintro e w2 ⟨y, hy, hy2, rfl, hc2, hg2⟩
    have HY : Hid (-9223372036854775808 ≤ (y : Int) ∧ (y : Int) ≤ 9223372036854775807) := by
      show _ ∧ _
      by_cases c : 0 < n
      · have := hy (by omega); omega
      · have := hy2 (by omega); omega
    clear hy hy2
    go_wp2
    go_ret
    exact ⟨_, HY.out, rfl, hc2, hg1.trans hg2⟩

theorem boTail {w : World} {g off cap : Nat} {d : List Bool} (h1 : 1 ≤ d.length) (hc : d.length ≤ cap) (hg : g < w.heap.size) (hcl : ∀ j x, d[j]? = some x → ∀ k u, (boE.f x)[k]? = some u → w.cell? ⟨g, off + j * boE.sz + k, none⟩ = some u) :
    Rows' boE w (.slice (some ⟨g, off + 1, none⟩) (d.length - 1) (cap - 1)) d.tail := by
  refine .inr ⟨g, off + 1, cap - 1, by rw [List.length_tail], by rw [List.length_tail]; omega, hg, fun j x hj k u hu => ?_⟩
  have h2 : d[j + 1]? = some x := by rw [List.getElem?_tail] at hj; exact hj
  have h3 := hcl (j + 1) x h2 k u hu
  rw [show boE.sz = 1 from rfl] at h3 ⊢
  rw [show off + 1 + j * 1 + k = off + (j + 1) * 1 + k by omega]
  exact h3

set_option maxRecDepth 100000 in
set_option maxHeartbeats 4000000 in
theorem dropDrawn_any (n : Nat) (pc : Nat) (a : Option Addr) (len cap : Nat) (w : World) (hc : Cur w pc a len cap) (hn : n ≤ 1000) :
    Calls Tryz.prog 66 #[.pointer (some ⟨pc, 0, none⟩), .int .i64 (n : Int)] w fun e w' => ∃ (d : List Bool) (v : Value), d.length ≤ 1000 ∧ e = .returned v ∧ Rows' boE w' v d ∧ Cur w' pc a len cap ∧ w.grownBy w' (some pc) := by
  have hst : RBuf boE w.heap.size w (w.alloc (.cells #[] 4)) (.slice (some ⟨w.heap.size, 0, none⟩) 0 0) [] := RBuf.fresh boE w
  have hpc := hc.lt
  have hcl := Lib.hid hc.codeLt
  have hc0 := hc.alloc (.cells #[] 4)
  have hg0 : w.grownBy (w.alloc (.cells #[] 4)) (some pc) := World.grownBy_alloc _ _ _
  go_enter Tryz.func66, Tryz.ntmps66
  go_wp2
  go_loopw [5, 6] (fun v iv wr => ∃ (d : List Bool) (i : Nat), i ≤ n ∧ d.length = i ∧ iv = .int .i64 (i : Int) ∧ RBuf boE w.heap.size wr wr v d ∧ Cur wr pc a len cap ∧ w.grownBy wr (some pc)) (fun _ iv _ => n - (intOf iv).toNat)
  case atStart => exact ⟨[], 0, by omega, rfl, rfl, hst.here, hc0, hg0⟩
  case round =>
    clear hst hc0 hg0 hc
    obtain ⟨d, i, hi, hd, rfl, R, hcr, hgr⟩ := hrel
    have HD := Lib.hid hd
    by_cases hlt : (i : Int) < (n : Int)
    · go_wp2_with fail
      refine (once_any 2 pc a len cap _ hcr (by omega)).mono ?_
      rintro e w3 ⟨he, hc3, hg3⟩
      have hgr3 := hgr.trans hg3
      have R3 := R.cursor hg3 hpc
      obtain ⟨b, hb⟩ : ∃ b : Bool, e = .returned (.bool b) := by rcases he with rfl | rfl <;> exact ⟨_, rfl⟩
      subst hb
      have hb5 := Lib.hid (R3.alloc (.cells #[.bool b] 4))
      have hL5 := Lib.hid (RBuf.lit1 boE w3 b)
      have hc5 := hc3.alloc (.cells #[.bool b] 4)
      have hg5 := hgr3.trans (World.grownBy_alloc w3 (.cells #[.bool b] 4) (some pc))
      have HR := Lib.hid R3
      clear hd he hg3 hcr R hgr hc3 hgr3 R3
      obtain ⟨ad, cd, hv⟩ := HR.out.form
      subst hv
      have hl0 : (d.length + 1) * 2 ≤ 140737488355328 := by have := HD.out; omega
      go_wp2_with (at_builtin; refine wpList_append_rows rfl _ _ boE rfl w.heap.size _ d rfl hb5.out.here w3.heap.size _ [b] rfl hL5.out (by show _ * 2 ≤ _; simp only [List.length_cons, List.length_nil]; omega) ?_; intro v8 w8 r8 g8 at8)
      have b8 : Below w.heap.size (w3.alloc (.cells #[.bool b] 4)) w8 := (Below.refl _ _).grown g8 (by have := HR.out.le; simp; omega) (fun q hq => (HR.out.own.lt q hq).1)
      exact ⟨⟨d ++ [b], i + 1, by omega, by simp [HD.out], by simp, r8, hc5.below b8 hpc hcl.out, grownBy_below hg5 b8 (Nat.le_refl _)⟩, by first | omega | (simp [intOf]; omega)⟩
    · have hin : i = n := by omega
      subst hin
      clear hlt
      obtain ⟨ad, cd, hv⟩ := R.form
      subst hv
      rw [hd] at R ⊢
      go_wp2_with fail
      refine (once_any 8 pc a len cap _ hcr (by omega)).mono ?_
      rintro e w3 ⟨he, hc3, hg3⟩
      have hgr3 := hgr.trans hg3
      have R3 := R.cursor hg3 hpc
      have HR := Lib.hid R3.rows
      clear hg3 hcr R hgr R3
      rcases he with rfl | rfl
      · by_cases h0 : (0 : Int) < (i : Int)
        · have hn1 : 1 ≤ i := by omega
          rcases HR.out.ways with ⟨e0, _⟩ | ⟨_, g, off, cp, e1, e2, e3, e4⟩
          · rw [e0] at hd; simp at hd; omega
          · rw [hd] at e1
            simp only [Value.slice.injEq] at e1
            obtain ⟨rfl, _, rfl⟩ := e1
            have hcd : (i : Int) ≤ (cd : Int) := by omega
            have HT : Hid (Rows' boE w3 (.slice (some ⟨g, off + 1, none⟩) (i - 1) (cd - 1)) d.tail ∧ d.tail.length ≤ 1000) := by
              have h9 := boTail (by omega) e2 e3 e4
              rw [hd] at h9
              exact ⟨h9, by rw [List.length_tail]; omega⟩
            have HN : Hid (d.length = i) := hd
            clear hd e2 e3 e4
            by_cases hc1 : cd = 1
            · subst hc1
              have HT0 : Hid (Rows' boE w3 (.slice (some ⟨g, off, none⟩) (i - 1) 0) []) := by
                rw [show i - 1 = 0 by omega]
                exact .inl ⟨rfl, _, _, rfl⟩
              go_wp2
              go_ret
              exact ⟨[], _, by simp, rfl, HT0.out, hc3, hgr3⟩
            · go_wp2
              go_ret
              exact ⟨d.tail, _, HT.out.2, rfl, HT.out.1, hc3, hgr3⟩
        · go_wp2
          go_ret
          exact ⟨d, _, by omega, rfl, HR.out, hc3, hgr3⟩
      · go_wp2
        go_ret
        exact ⟨d, _, by omega, rfl, HR.out, hc3, hgr3⟩

/-- What is drawn of both. -/
def PairR (w : World) (e : Ending) (w' : World) : Prop := ∃ (l : List Itm) (v : Value) (d : List Bool) (u : Value), ItsA 300 l ∧ d.length ≤ 1000 ∧ e = .returned (.tuple #[v, u]) ∧ Rows' itE w' v l ∧ Rows' boE w' u d ∧ Below w.heap.size w w'
def NeedR (w : World) (e : Ending) (w' : World) : Prop := ∃ (l : List Itm) (v : Value) (k : Int), ItsA 300 l ∧ (-9223372036854775808 ≤ k ∧ k ≤ 9223372036854775807) ∧ e = .returned (.tuple #[v, .int .i64 k]) ∧ Rows' itE w' v l ∧ Below w.heap.size w w'

set_option maxRecDepth 100000 in
set_option maxHeartbeats 1000000 in
theorem drawPair_any (a : Option Addr) (len cap : Nat) (w : World) (hcode : CodeIn w a len) (hs : len ≤ 1048576) :
    Calls Tryz.prog 47 #[.slice a len cap] w fun e w' => PairR w e w' := by
  go_enter Tryz.func47, Tryz.ntmps47
  go_wp2_with fail
  refine (new_any a len cap _ hcode hs).mono ?_
  rintro e w1 ⟨pc, hp, rfl, hc1, hb1⟩
  have D1 : Drw w pc a len cap w1 := ⟨hc1, hb1, hp⟩
  clear hc1 hb1
  go_wp2_with fail
  refine (itemsAny_any pc a len cap _ D1.cur).mono ?_
  rintro e w2 ⟨l, v, hl, rfl, R2, hc2, hg2⟩
  have D2 := D1.step hc2 hg2
  have hpc1 := D1.cur.lt
  have HL := Lib.hid hl
  have hll := hl.1
  obtain ⟨al, cl, rfl⟩ := R2.form
  clear hl hc2 hg2 D1
  go_wp2_with fail
  refine (dropDrawn_any l.length pc a len cap _ D2.cur (by omega)).mono ?_
  rintro e w3 ⟨d, u, hd, rfl, R3, hc3, hg3⟩
  have D3 := D2.step hc3 hg3
  have R4 := Lib.hid (R2.cursor hg3 hpc1).rows
  have HR3 := Lib.hid R3
  obtain ⟨ad, cd, rfl, _⟩ := R3.bools
  clear hc3 hg3 D2 R2 R3
  go_wp2
  refine bodyPost_ret (v := .tuple #[.slice al l.length cl, .slice ad d.length cd]) (by simp [results, Tryz.results47, go_sem]) rfl ?_
  exact ⟨l, _, d, _, HL.out, hd, rfl, R4.out, HR3.out, D3.bel⟩

set_option maxRecDepth 100000 in
set_option maxHeartbeats 1000000 in
theorem drawNextsOf_any (a : Option Addr) (len cap : Nat) (w : World) (hcode : CodeIn w a len) (hs : len ≤ 1048576) :
    Calls Tryz.prog 21 #[.slice a len cap] w fun e w' => PairR w e w' := by
  go_enter Tryz.func21, Tryz.ntmps21
  go_wp2_with fail
  refine (drawPair_any a len cap _ hcode hs).mono ?_
  rintro e w1 ⟨l, v, d, u, hl, hd, rfl, R1, R2, b1⟩
  have HL := Lib.hid hl
  have H1 := Lib.hid R1
  have H2 := Lib.hid R2
  obtain ⟨al, cl, rfl, _⟩ := R1.items
  obtain ⟨ad, cd, rfl, _⟩ := R2.bools
  clear hl R1 R2
  go_wp2
  refine bodyPost_ret (v := .tuple #[.slice al l.length cl, .slice ad d.length cd]) (by simp [results, Tryz.results21, go_sem]) rfl ?_
  exact ⟨l, _, d, _, HL.out, hd, rfl, H1.out, H2.out, b1⟩

set_option maxRecDepth 100000 in
set_option maxHeartbeats 1000000 in
theorem drawNeeded_any (a : Option Addr) (len cap : Nat) (w : World) (hcode : CodeIn w a len) (hs : len ≤ 1048576) :
    Calls Tryz.prog 20 #[.slice a len cap] w fun e w' => NeedR w e w' := by
  go_enter Tryz.func20, Tryz.ntmps20
  go_wp2_with fail
  refine (new_any a len cap _ hcode hs).mono ?_
  rintro e w1 ⟨pc, hp, rfl, hc1, hb1⟩
  have D1 : Drw w pc a len cap w1 := ⟨hc1, hb1, hp⟩
  clear hc1 hb1
  go_wp2_with fail
  refine (placeB_any 20 pc a len cap _ D1.cur (by omega) (by omega)).mono ?_
  rintro e w2 ⟨k, hk, rfl, hc2, hg2⟩
  have D2 := D1.step hc2 hg2
  have HK := Lib.hid hk
  clear hk hc2 hg2 D1
  go_wp2_with fail
  refine (itemsAny_any pc a len cap _ D2.cur).mono ?_
  rintro e w3 ⟨l, v, hl, rfl, R3, hc3, hg3⟩
  have D3 := D2.step hc3 hg3
  have HL := Lib.hid hl
  have H3 := Lib.hid R3.rows
  obtain ⟨al, cl, rfl⟩ := R3.form
  clear hl hc3 hg3 D2 R3
  go_wp2
  refine bodyPost_ret (v := .tuple #[.slice al l.length cl, .int .i64 k]) (by simp [results, Tryz.results20, go_sem]) rfl ?_
  exact ⟨l, _, k, HL.out, HK.out, rfl, H3.out, D3.bel⟩

end Go.Proofs.YtahebgceoidebaaGreat

/- How numbers, texts and writes lie in memory. -/
namespace Go.Proofs.YtahebgceoidebaaGreat
open Go.RowKit

def strE : Enc ByteArray where
  ty := 9
  sty := 110
  sz := 1
  bytes := 16
  zero := .string ⟨#[]⟩
  f := fun s => [.string s]
  len := fun _ => rfl
  pos := by decide
  one := fun _ u hu => by simp at hu; subst hu; rfl
  und := Tryz.underlying110
  info := by kernel_rfl
  zc := rfl
  z0 := ⟨#[]⟩
  zf := rfl

def intE : Enc Int where
  ty := 3
  sty := 26
  sz := 1
  bytes := 8
  zero := .int .i64 0
  f := fun n => [.int .i64 n]
  len := fun _ => rfl
  pos := by decide
  one := fun _ u hu => by simp at hu; subst hu; rfl
  und := Tryz.underlying26
  info := by kernel_rfl
  zc := rfl
  z0 := 0
  zf := rfl

/-- A write: where, and what. -/
structure Wr where
  at_ : Int
  text : ByteArray



end Go.Proofs.YtahebgceoidebaaGreat

/- What a value owns: its memory lies between two marks of the heap, and what is written elsewhere leaves it alone. -/
namespace Go.Proofs.YtahebgceoidebaaGreat
open Go.RowKit

/-- Whatever was there outside the blocks B .. T-1 is as it was. -/
structure Kept (B T : Nat) (w w' : World) : Prop where
  os : w'.os = w.os
  tape : w'.tape = w.tape
  output : w'.output = w.output
  size : w.heap.size ≤ w'.heap.size
  block : ∀ k, k < w.heap.size → (k < B ∨ T ≤ k) → w'.heap[k]? = w.heap[k]?

theorem Kept.of_below {w w' : World} (hb : Below w.heap.size w w') (B T : Nat) : Kept B T w w' := ⟨hb.os, hb.tape, hb.output, hb.size, fun k hk _ => hb.block k hk⟩
theorem Kept.of_grown {w w' : World} {r : Option Nat} {B T : Nat} (h : w.grownBy w' r) (hr : ∀ k, r = some k → B ≤ k ∧ k < T) : Kept B T w w' :=
  ⟨h.os, h.tape, h.output, h.size, fun k hk hout => h.block k hk (fun e => by have := hr k e.symm; omega)⟩
theorem Kept.trans {B T : Nat} {w w1 w2 : World} (h : Kept B T w w1) (h2 : Kept B T w1 w2) : Kept B T w w2 :=
  ⟨h2.os.trans h.os, h2.tape.trans h.tape, h2.output.trans h.output, Nat.le_trans h.size h2.size, fun k hk hout => (h2.block k (Nat.lt_of_lt_of_le hk h.size) hout).trans (h.block k hk hout)⟩
theorem Kept.below {B T B0 : Nat} {w0 w w' : World} (h : Kept B T w w') (hb : Below B0 w0 w) (h0 : B0 ≤ B) (hs : B0 ≤ w.heap.size) : Below B0 w0 w' :=
  ⟨h.os.trans hb.os, h.tape.trans hb.tape, h.output.trans hb.output, Nat.le_trans hb.size h.size, fun k hk => (h.block k (Nat.lt_of_lt_of_le hk hs) (.inl (Nat.lt_of_lt_of_le hk h0))).trans (hb.block k hk)⟩

variable {α : Type} {E : Enc α} {B T : Nat} {w w' : World} {v : Value} {l : List α}

/-- The slice v holds the elements l in a row of its own, in one of the blocks B .. T-1. -/
def LOwn (E : Enc α) (B T : Nat) (w : World) (v : Value) (l : List α) : Prop := RBuf E B w w v l ∧ T ≤ w.heap.size ∧ ∀ k, v.ownBlock = some k → k < T

theorem RBuf.lown {w0 : World} (h : RBuf E B w0 w v l) : LOwn E B w.heap.size w v l := ⟨h.here, Nat.le_refl _, fun k hk => (h.own.lt k hk).2⟩

theorem LOwn.kept {B' T' : Nat} (h : LOwn E B T w v l) (hk : Kept B' T' w w') (hd : T ≤ B' ∨ T' ≤ B) : LOwn E B T w' v l := by
  refine ⟨⟨⟨h.1.own.1, ?_⟩, Below.refl _ _, Nat.le_trans h.1.le hk.size⟩, Nat.le_trans h.2.1 hk.size, h.2.2⟩
  rcases h.1.own.2 with h1 | ⟨g, cap, cur, h1, h2, h3, h4⟩
  · exact .inl h1
  · have hg := h.2.2 g (by rw [h1]; rfl)
    refine .inr ⟨g, cap, cur, h1, h2, ?_, h4⟩
    rw [hk.block g (Nat.lt_of_lt_of_le hg h.2.1) (by omega)]
    exact h3

theorem LOwn.later (h : LOwn E B T w v l) (hb : Below w.heap.size w w') : LOwn E B T w' v l :=
  h.kept (Kept.of_below hb T T) (.inl (Nat.le_refl _))

theorem LOwn.wider {T' : Nat} (h : LOwn E B T w v l) (hT : T ≤ T') (hs : T' ≤ w.heap.size) : LOwn E B T' w v l := ⟨h.1, hs, fun k hk => Nat.lt_of_lt_of_le (h.2.2 k hk) hT⟩

theorem LOwn.deeper {B' : Nat} (h : LOwn E B T w v l) (hB : B' ≤ B) : LOwn E B' T w v l := ⟨h.1.down (Below.refl _ _) hB, h.2⟩

theorem LOwn.rows (h : LOwn E B T w v l) : Rows' E w v l := h.1.rows

/-- A store by another name leaves a row alone whose block is another. -/
theorem LOwn.grown {r : Option Nat} (h : LOwn E B T w v l) (hg : w.grownBy w' r) (hne : v.ownBlock = none ∨ v.ownBlock ≠ r) : LOwn E B T w' v l :=
  ⟨⟨h.1.own.kept hg hne, Below.refl _ _, Nat.le_trans h.1.le hg.size⟩, Nat.le_trans h.2.1 hg.size, h.2.2⟩

/-- A store below the row's base leaves it alone. -/
theorem LOwn.store (h : LOwn E B T w v l) (g i : Nat) (u : Value) (hg : g < B) : LOwn E B T (w.setCell ⟨g, i, none⟩ u) v l := by
  refine h.grown (stored_grown w g i u) ?_
  cases hv : v.ownBlock with
  | none => exact .inl rfl
  | some k => exact .inr (by intro e; have := (h.1.own.lt k hv).1; have := Option.some.inj e; omega)

theorem LOwn.storeHi (h : LOwn E B T w v l) (g i : Nat) (u : Value) (hg : T ≤ g) : LOwn E B T (w.setCell ⟨g, i, none⟩ u) v l := by
  refine h.grown (stored_grown w g i u) ?_
  cases hv : v.ownBlock with
  | none => exact .inl rfl
  | some k => exact .inr (by intro e; have := h.2.2 k hv; have := Option.some.inj e; omega)

end Go.Proofs.YtahebgceoidebaaGreat
