/- Texts of our own, joined. -/
import Derived.Test.YtlifgcgoehkinaaGreatDoorJr
import Derived.Test.YtlifgcgoehkinaaGreatDoorJu
/- What of a store is freed, and its log without that: the program's. -/
namespace Go.Proofs.YtlifgcgoehkinaaGreatDoor
open Go.RowKit

set_option maxRecDepth 100000 in
set_option maxHeartbeats 2000000 in
theorem indexInt_any (l : List Int) (v : Value) (no : Int) (w : World) (h : Rows' intE w v l) (hl : l.length ≤ 1048576) :
    Calls Tryz.prog 93 #[v, .int .i64 no] w fun e w' => (∃ r : Int, e = .returned (.int .i64 r) ∧ ((0 ≤ r ∧ frI l no = true) ∨ (¬ 0 ≤ r ∧ frI l no = false))) ∧ w' = w := by
  obtain ⟨a, cap, rfl⟩ : ∃ (a : Option Addr) (cap : Nat), v = .slice a l.length cap := by
    rcases h with ⟨e, a, c, rfl⟩ | ⟨g, off, c, rfl, _⟩
    · exact ⟨a, c, by rw [e]; rfl⟩
    · exact ⟨_, c, rfl⟩
  have HF := Lib.hid h
  have HQ : Hid (∀ x ∈ l, eqN no x = true → frI l no = true) := fun x hx h => List.any_eq_true.2 ⟨x, hx, h⟩
  clear h
  obtain ⟨m, hm⟩ : ∃ m, l.length = m := ⟨_, rfl⟩
  rw [hm] at hl ⊢
  have HM := Lib.hid hm
  clear hm
  go_enter Tryz.func93, Tryz.ntmps93
  go_wp2
  go_loop [8] (fun iv => ∃ i : Nat, i ≤ m ∧ iv = .int .i64 (i : Int) ∧ Hid (frI (l.take i) no = false)) (fun iv => m - (intOf iv).toNat)
  case atStart => exact ⟨0, by omega, rfl, show _ = _ by simp [frI]⟩
  case round =>
    obtain ⟨i, hi, rfl, HNO⟩ := hrel
    by_cases hlt : i < m
    · obtain ⟨x, hgx⟩ : ∃ x, l[i]? = some x := ⟨_, List.getElem?_eq_getElem (by rw [HM.out]; exact hlt)⟩
      have hxl : i < l.length := by rw [HM.out]; exact hlt
      obtain ⟨g, off, rfl, hcl⟩ := HF.out.at i hxl
      have hcs := hcl w (Below.refl _ _) 0 _ rfl
      rw [show intE.sz = 1 from rfl, Nat.mul_one, Nat.add_zero, show l[i] = x from Option.some.inj ((List.getElem?_eq_getElem hxl).symm.trans hgx)] at hcs
      have HT := Lib.hid (frI_take hgx no)
      rw [HNO.out, Bool.false_or] at HT
      have HFA := Lib.hid (HQ.out x (List.mem_of_getElem? hgx))
      clear hgx hcl hxl HNO
      have hi0 : (0 : Int) ≤ (i : Int) := by omega
      have hi1 : (i : Int) < (m : Int) := by omega
      by_cases hs : x = no
      · have HF2 := Lib.hid (HFA.out (decide_eq_true hs))
        have hs' : (no == x) = true := by rw [hs]; exact beq_self_eq_true _
        clear HFA HT
        go_wp2
        go_ret
        exact ⟨⟨_, rfl, .inl ⟨hi0, HF2.out⟩⟩, rfl⟩
      · have HF2 : Hid (frI (l.take (i + 1)) no = false) := by show _ = _; rw [HT.out]; exact decide_eq_false hs
        have hs' : (no == x) = false := beq_eq_false_iff_ne.2 (fun e => hs e.symm)
        clear HFA HT
        go_wp2
        exact ⟨⟨i + 1, by omega, by simp, HF2⟩, by first | omega | (simp [intOf]; omega)⟩
    · have HF2 : Hid (frI l no = false) := by
        have h1 := HNO.out
        rw [List.take_of_length_le (by rw [HM.out]; omega)] at h1
        exact h1
      clear HNO
      go_wp2
      go_ret
      exact ⟨⟨-1, rfl, .inr ⟨by omega, HF2.out⟩⟩, rfl⟩

set_option maxRecDepth 100000 in
theorem containsInt_any (l : List Int) (v : Value) (no : Int) (w : World) (h : Rows' intE w v l) (hl : l.length ≤ 1048576) :
    Calls Tryz.prog 70 #[v, .int .i64 no] w fun e w' => e = .returned (.bool (frI l no)) ∧ w' = w := by
  have HI := Lib.hid (indexInt_any l v no w h hl)
  clear h
  go_enter Tryz.func70, Tryz.ntmps70
  go_wp2_with fail
  refine HI.out.mono ?_
  rintro e w1 ⟨⟨r, rfl, hr⟩, rfl⟩
  clear HI
  rcases hr with ⟨hr, he⟩ | ⟨hr, he⟩
  · have HE := Lib.hid he
    clear he
    go_wp2
    go_ret
    exact ⟨by rw [HE.out]; first | rfl | simp [hr], rfl⟩
  · have HE := Lib.hid he
    clear he
    go_wp2
    go_ret
    exact ⟨by rw [HE.out]; first | rfl | simp [hr], rfl⟩

set_option maxRecDepth 100000 in
set_option maxHeartbeats 2000000 in
theorem isFreed_any (S : So) (v : Value) (no : Int) (w : World) (h : SoRd w v S) (hl : S.fr.length ≤ 1048576) :
    Calls Tryz.prog 45 #[v, .int .i64 no] w fun e w' => e = .returned (.bool (frI S.fr no)) ∧ Below w.heap.size w w' := by
  obtain ⟨va, vb, au, af, cu, cf, rfl, _, _, hf⟩ := h.opened
  have b0 := belNew w (.cells #[va, vb, .int .i64 S.g.segs, .slice au S.g.used.length cu, .int .i64 S.g.ng, .int .i64 S.g.ns, .int .i64 S.g.st, .int .i64 S.g.nv, .slice af S.fr.length cf] 41)
  have c8 := (Box.new w #[va, vb, .int .i64 S.g.segs, .slice au S.g.used.length cu, .int .i64 S.g.ng, .int .i64 S.g.ns, .int .i64 S.g.st, .int .i64 S.g.nv, .slice af S.fr.length cf] 41).cell 8 (.slice af S.fr.length cf) rfl
  have HC := Lib.hid (containsInt_any S.fr _ no _ (hf.later b0) hl)
  clear hf h
  go_enter Tryz.func45, Tryz.ntmps45
  go_wp2_with fail
  refine HC.out.mono ?_
  rintro e w1 ⟨rfl, rfl⟩
  clear c8 HC
  go_wp2_with fail
  go_ret
  exact ⟨rfl, b0⟩

def GLm (w : World) (bs : List Sg) (hs : List SgH) : Prop := hs.length = bs.length ∧ ∀ (j : Nat) (h : SgH) (b : Sg), hs[j]? = some h → bs[j]? = some b → (h.no = b.no ∧ h.gen = b.gen ∧ h.ende = b.ende) ∧ Rows' itE w h.mv b.items
theorem GLm.push {w : World} {bs : List Sg} {hs : List SgH} (h : GLm w bs hs) (b : Sg) (x : SgH) (hx : (x.no = b.no ∧ x.gen = b.gen ∧ x.ende = b.ende) ∧ Rows' itE w x.mv b.items) : GLm w (bs ++ [b]) (hs ++ [x]) := by
  refine ⟨by simp [h.1], fun j y c h1 h2 => ?_⟩
  by_cases c1 : j < hs.length
  · rw [List.getElem?_append_left c1] at h1
    rw [List.getElem?_append_left (by rw [← h.1]; exact c1)] at h2
    exact h.2 j y c h1 h2
  · rw [List.getElem?_append_right (by omega)] at h1
    rw [List.getElem?_append_right (by rw [← h.1]; omega), ← h.1] at h2
    have hj0 : j - hs.length = 0 := by
      have := (List.getElem?_eq_some_iff.1 h1).1
      simp at this; omega
    rw [hj0] at h1 h2
    simp at h1 h2
    subst h1 h2
    exact hx
theorem GLm.rd {w w' : World} {v : Value} {bs : List Sg} {hs : List SgH} (h : GLm w bs hs) (hr : Rows' sgE w' v hs) (hb : Below w.heap.size w w') : GRd w' v bs :=
  ⟨hs, hr, h.1, fun j x b h1 h2 => ⟨(h.2 j x b h1 h2).1, (h.2 j x b h1 h2).2.later hb⟩⟩
structure WfL (w1 : World) (B : Nat) (tL : TypeId) (va vb : Value) (L : Lg) (x : World) (a : Option Addr) (cap : Nat) (l : List SgH) : Prop where
  box : Box x w1.heap.size #[va, vb, .int .i64 L.segs, .slice a l.length cap, .int .i64 L.ng, .int .i64 L.ns, .int .i64 L.st, .int .i64 L.nv] tL
  row : RBuf sgE B x x (.slice a l.length cap) l
  bel : Below w1.heap.size w1 x
  lt : w1.heap.size < B
theorem WfL.later {w1 : World} {B : Nat} {tL : TypeId} {va vb : Value} {L : Lg} {x y : World} {a : Option Addr} {cap : Nat} {l : List SgH} (h : WfL w1 B tL va vb L x a cap l) (hb : Below x.heap.size x y) : WfL w1 B tL va vb L y a cap l :=
  ⟨h.box.later hb, (h.row.later hb).here, h.bel.trans (hb.mono h.bel.size), h.lt⟩
theorem WfL.push {w1 : World} {B : Nat} {tL : TypeId} {va vb : Value} {L : Lg} {x y : World} {a : Option Addr} {cap : Nat} {l m : List SgH} (h : WfL w1 B tL va vb L x a cap l)
    (a2 : Option Addr) (c2 : Nat) (hr : RBuf sgE B y y (.slice a2 m.length c2) m) (hg : x.grownBy y (Value.slice a l.length cap).ownBlock) : WfL w1 B tL va vb L (y.setCell ⟨w1.heap.size, 3, none⟩ (.slice a2 m.length c2)) a2 c2 m := by
  have hne : ∀ k, (Value.slice a l.length cap).ownBlock = some k → B ≤ k := fun k hk => (h.row.own.lt k hk).1
  have b3 := h.box.butG hg (fun k hk => by have := hne k hk; have := h.lt; omega)
  refine ⟨b3.set 3 _, hr.shift (stored_grown _ w1.heap.size 3 _) ?_, (h.bel.grown hg h.bel.size (fun k hk => by have := hne k hk; have := h.lt; omega)).setCell (p := ⟨w1.heap.size, 3, none⟩) (Nat.le_refl _) _, h.lt⟩
  cases hb : (Value.slice a2 m.length c2).ownBlock with
  | none => exact .inl rfl
  | some k =>
    right
    intro e
    have e1 : k = w1.heap.size := Option.some.inj e
    have := (hr.own.lt k hb).1
    have := h.lt
    omega
theorem WfL.cells {w1 : World} {B : Nat} {tL : TypeId} {va vb : Value} {L : Lg} {x y : World} {a : Option Addr} {cap : Nat} {l : List SgH} (h : WfL w1 B tL va vb L x a cap l)
    (hg : x.grownBy y (Value.slice a l.length cap).ownBlock) : y.cell? ⟨w1.heap.size, 3, none⟩ = some (.slice a l.length cap) ∧ y.frozen? ⟨w1.heap.size, 3, none⟩ = false := by
  have hne : ∀ k, (Value.slice a l.length cap).ownBlock = some k → B ≤ k := fun k hk => (h.row.own.lt k hk).1
  have b3 := h.box.butG hg (fun k hk => by have := hne k hk; have := h.lt; omega)
  exact ⟨b3.cell 3 _ rfl, b3.loose 3⟩

set_option maxRecDepth 100000 in
set_option maxHeartbeats 4000000 in
theorem withoutFreed_any (S : So) (v : Value) (w : World) (h : SoRd w v S) (hL : S.lean) :
    Calls Tryz.prog 44 #[v] w fun e w' => ∃ v', e = .returned v' ∧ LRd w' v' { S.g with used := kU S.fr S.g.used } ∧ Below w.heap.size w w' := by
  obtain ⟨va, vb, au, af, cu, cf, rfl, hlr, hu, _⟩ := h.opened
  obtain ⟨ad, cap, ev, hrow⟩ := hu.segs
  injection ev with e1 e2 e3
  subst e1 e3
  have HDR : Hid (DRd w (.agg #[va, vb]) S.g.d) := by
    obtain ⟨va', vb', vu', e, hd, _⟩ := hlr
    have h0 := Option.some.inj (congrArg (fun x : Value => match x with | .agg a => a.toList[0]? | _ => none) e)
    have h1 := Option.some.inj (congrArg (fun x : Value => match x with | .agg a => a.toList[1]? | _ => none) e)
    rw [h0, h1]
    exact hd
  obtain ⟨⟨aA, cA, rfl⟩, ⟨aB, cB, rfl⟩⟩ : (∃ (a : Option Addr) (c : Nat), va = .slice a S.g.d.sec.length c) ∧ (∃ (a : Option Addr) (c : Nat), vb = .slice a S.g.d.cache.length c) := by
    obtain ⟨aa, ab, ca, cb, e, _⟩ := HDR.out.form
    exact ⟨⟨aa, ca, Option.some.inj (congrArg (fun x : Value => match x with | .agg a => a.toList[0]? | _ => none) e)⟩, ⟨ab, cb, Option.some.inj (congrArg (fun x : Value => match x with | .agg a => a.toList[1]? | _ => none) e)⟩⟩
  have b0 := belNew w (.cells #[(.slice aA S.g.d.sec.length cA), (.slice aB S.g.d.cache.length cB), .int .i64 S.g.segs, .slice au S.g.used.length cu, .int .i64 S.g.ng, .int .i64 S.g.ns, .int .i64 S.g.st, .int .i64 S.g.nv, .slice af S.fr.length cf] 41)
  have q0 := Box.new w #[(.slice aA S.g.d.sec.length cA), (.slice aB S.g.d.cache.length cB), .int .i64 S.g.segs, .slice au S.g.used.length cu, .int .i64 S.g.ng, .int .i64 S.g.ns, .int .i64 S.g.st, .int .i64 S.g.nv, .slice af S.fr.length cf] 41
  have hl := S.lean_its hL
  have HFC : Hid (∀ (no : Int) X, Below w.heap.size w X → Calls Tryz.prog 45 #[.agg #[(.slice aA S.g.d.sec.length cA), (.slice aB S.g.d.cache.length cB), .int .i64 S.g.segs, .slice au S.g.used.length cu, .int .i64 S.g.ng, .int .i64 S.g.ns, .int .i64 S.g.st, .int .i64 S.g.nv, .slice af S.fr.length cf], .int .i64 no] X fun e w' => e = .returned (.bool (frI S.fr no)) ∧ Below X.heap.size X w') := fun no X hX => isFreed_any S _ no X (h.later hX) hL.2
  have HR : Hid _ := hrow
  have HKL : Hid (∀ k, (kU S.fr (S.g.used.take k)).length ≤ 1048576) := fun k => by
    have h1 := kU_len S.fr (S.g.used.take k)
    rw [List.length_take] at h1
    omega
  clear hu hrow h hL e2 hlr
  obtain ⟨W0, hW0⟩ : ∃ W0, w.alloc (.cells #[(.slice aA S.g.d.sec.length cA), (.slice aB S.g.d.cache.length cB), .int .i64 S.g.segs, .slice au S.g.used.length cu, .int .i64 S.g.ng, .int .i64 S.g.ns, .int .i64 S.g.st, .int .i64 S.g.nv, .slice af S.fr.length cf] 41) = W0 := ⟨_, rfl⟩
  have z0 : W0.heap.size = w.heap.size + 1 := by rw [← hW0]; simp
  rw [hW0] at b0 q0
  have k1 := belNew W0 (.cells #[.slice none 0 0, .slice none 0 0, .int .i64 0, .slice none 0 0, .int .i64 0, .int .i64 0, .int .i64 0, .int .i64 0] 39)
  have q1 := Box.new W0 #[.slice none 0 0, .slice none 0 0, .int .i64 0, .slice none 0 0, .int .i64 0, .int .i64 0, .int .i64 0, .int .i64 0] 39
  obtain ⟨W, hW⟩ : ∃ W, W0.alloc (.cells #[.slice none 0 0, .slice none 0 0, .int .i64 0, .slice none 0 0, .int .i64 0, .int .i64 0, .int .i64 0, .int .i64 0] 39) = W := ⟨_, rfl⟩
  have z1 : W.heap.size = w.heap.size + 2 := by rw [← hW]; simp; omega
  rw [hW] at k1 q1
  rw [z0] at q1
  replace q0 := q0.later k1
  have b1 := b0.trans (k1.mono b0.size)
  obtain ⟨n, hn⟩ : ∃ n, S.g.used.length = n := ⟨_, rfl⟩
  have HN := Lib.hid hn
  obtain ⟨m, hm⟩ : ∃ m, S.fr.length = m := ⟨_, rfl⟩
  rw [hn, hm] at q0 HFC hW0
  rw [hn] at hl
  have HW : Hid ((w.alloc (.cells #[(.slice aA S.g.d.sec.length cA), (.slice aB S.g.d.cache.length cB), .int .i64 S.g.segs, .slice au n cu, .int .i64 S.g.ng, .int .i64 S.g.ns, .int .i64 S.g.st, .int .i64 S.g.nv, .slice af m cf] 41)).alloc (.cells #[.slice none 0 0, .slice none 0 0, .int .i64 0, .slice none 0 0, .int .i64 0, .int .i64 0, .int .i64 0, .int .i64 0] 39) = W) := by show _ = _; rw [hW0, hW]
  rw [hn, hm]
  clear hm hn hW hW0
  obtain ⟨g0, hg0⟩ : ∃ g0, w.heap.size = g0 := ⟨_, rfl⟩
  obtain ⟨g1, hg1⟩ : ∃ g1, w.heap.size + 1 = g1 := ⟨_, rfl⟩
  have HG0 := Lib.hid hg0
  have HG1 := Lib.hid hg1
  have HZ1 := Lib.hid z1
  rw [hg1] at q1
  rw [hg0] at q0
  have X2 := Box.new W #[(.slice aA S.g.d.sec.length cA), (.slice aB S.g.d.cache.length cB), .int .i64 S.g.segs, .slice au n cu, .int .i64 S.g.ng, .int .i64 S.g.ns, .int .i64 S.g.st, .int .i64 S.g.nv] 39
  have k2 := belNew W (.cells #[(.slice aA S.g.d.sec.length cA), (.slice aB S.g.d.cache.length cB), .int .i64 S.g.segs, .slice au n cu, .int .i64 S.g.ng, .int .i64 S.g.ns, .int .i64 S.g.st, .int .i64 S.g.nv] 39)
  have z2 : (W.alloc (.cells #[(.slice aA S.g.d.sec.length cA), (.slice aB S.g.d.cache.length cB), .int .i64 S.g.segs, .slice au n cu, .int .i64 S.g.ng, .int .i64 S.g.ns, .int .i64 S.g.st, .int .i64 S.g.nv] 39)).heap.size = W.heap.size + 1 := by simp
  obtain ⟨W2, hW2⟩ : ∃ W2, W.alloc (.cells #[(.slice aA S.g.d.sec.length cA), (.slice aB S.g.d.cache.length cB), .int .i64 S.g.segs, .slice au n cu, .int .i64 S.g.ng, .int .i64 S.g.ns, .int .i64 S.g.st, .int .i64 S.g.nv] 39) = W2 := ⟨_, rfl⟩
  rw [hW2] at X2 k2 z2
  have X3 := (X2.later (belNew W2 (.cells #[] 60)))
  have I0 : WfL W (W.heap.size + 1) 39 (.slice aA S.g.d.sec.length cA) (.slice aB S.g.d.cache.length cB) S.g ((W2.alloc (.cells #[] 60)).setCell ⟨W.heap.size, 3, none⟩ (.slice (some ⟨W2.heap.size, 0, none⟩) 0 0)) (some ⟨W2.heap.size, 0, none⟩) 0 [] := by
    refine ⟨X3.set 3 _, ?_, ((k2.trans ((belNew W2 (.cells #[] 60)).mono k2.size)).setCell (p := ⟨W.heap.size, 3, none⟩) (Nat.le_refl _) _), by omega⟩
    rw [← z2]
    exact (RBuf.fresh sgE W2).here.shift (stored_grown _ W.heap.size 3 _) (.inr (fun e => by have h9 : W2.heap.size = W.heap.size := Option.some.inj e; omega))
  have HI0 := Lib.hid I0
  have HW2 := Lib.hid hW2
  obtain ⟨x0, x1, x2, x3, x4, x5, x6, x7, x8⟩ := q0.nineG
  obtain ⟨y0, y1, y2, y3, y4, y5, y6, y7, _⟩ := X3.eightL
  have f3 := X3.loose 3
  have HQ := Lib.hid q0
  have HQ1 := Lib.hid q1
  have HB1 := Lib.hid b1
  obtain ⟨B, hB⟩ : ∃ B, W.heap.size + 1 = B := ⟨_, rfl⟩
  rw [hB] at HI0
  have HBB := Lib.hid hB
  clear X2 X3 I0 k1 k2 z0 z1 z2 hg0 hg1 q0 q1 b0 b1 hW2 hB
  go_enter Tryz.func44, Tryz.ntmps44
  go_upto_region 1 with fail
  rw [HW.out, HG1.out, HG0.out]
  go_upto_region 2 with fail
  rw [HW2.out]
  clear x0 x1 x2 x3 x4 x5 x6 x7 x8
  go_upto_region 3 with fail
  clear y0 y1 y2 y3 y4 y5 y6 y7 f3 HW2
  generalize (W2.alloc (.cells #[] 60)).setCell ⟨W.heap.size, 3, none⟩ (.slice (some ⟨W2.heap.size, 0, none⟩) 0 0) = W3 at HI0 ⊢
  generalize (some ⟨W2.heap.size, 0, none⟩ : Option Addr) = aa at HI0 ⊢
  have d3 := (HQ.out.later HI0.out.bel).cell 3 (.slice au n cu) rfl
  go_wp2_with fail
  clear d3
  go_loopw [14] (fun iv wr => ∃ (k : Nat) (hs : List SgH) (a : Option Addr) (c : Nat), k ≤ n ∧ iv = .int .i64 (k : Int) ∧ Hid (GLm w (kU S.fr (S.g.used.take k)) hs) ∧ WfL W B 39 (.slice aA S.g.d.sec.length cA) (.slice aB S.g.d.cache.length cB) S.g wr a c hs) (fun iv _ => n - (intOf iv).toNat)
  case atStart => exact ⟨0, [], aa, 0, by omega, rfl, ⟨rfl, fun j h b h1 => by simp at h1⟩, HI0.out⟩
  case round =>
    clear HI0
    obtain ⟨k, hs, a, c, hk, rfl, HGL, I⟩ := hrel
    by_cases hlt : k < n
    · obtain ⟨s, hgs⟩ : ∃ s, S.g.used[k]? = some s := ⟨_, List.getElem?_eq_getElem (by rw [HN.out]; exact hlt)⟩
      have bW := HB1.out.trans (I.bel.mono HB1.out.size)
      obtain ⟨ga, oa, am, nm, cm, rfl, a0, a1, a2, a4, rm⟩ := HR.out _ bW k s hgs
      have hi0 : (0 : Int) ≤ (k : Int) := by omega
      have hi1 : (k : Int) < (n : Int) := by omega
      have I4 := I.later (belNew wr (.cells #[.int .i64 s.no, .int .i64 s.gen, .int .i64 s.ende, .slice am nm cm] 60))
      have XS := Box.new wr #[.int .i64 s.no, .int .i64 s.gen, .int .i64 s.ende, .slice am nm cm] 60
      have HKN : Hid (frI S.fr s.no = true → kU S.fr (S.g.used.take (k + 1)) = kU S.fr (S.g.used.take k)) := fun e => kU_take_no hgs e
      have HKY : Hid (frI S.fr s.no = false → GLm w (kU S.fr (S.g.used.take (k + 1))) (hs ++ [⟨s.no, s.gen, s.ende, am, nm, cm⟩])) := fun e => by
        rw [kU_take_yes hgs e]
        exact HGL.out.push s _ ⟨⟨rfl, rfl, rfl⟩, rm⟩
      have HHL : Hid (hs.length ≤ 1048576) := by show _ ≤ _; rw [HGL.out.1]; exact HKL.out k
      have HFS := Lib.hid (HFC.out s.no)
      clear rm bW I hgs
      go_upto_region 6 with fail
      clear a0 a1 a2 a4
      generalize wr.alloc (.cells #[.int .i64 s.no, .int .i64 s.gen, .int .i64 s.ende, .slice am nm cm] 60) = wS at I4 XS ⊢
      generalize wr.heap.size = gi at XS ⊢
      have s0 := XS.cell 0 (.int .i64 s.no) rfl
      obtain ⟨x0, x1, x2, x3, x4, x5, x6, x7, x8⟩ := (HQ.out.later I4.bel).nineG
      have HFS2 := Lib.hid (HFS.out wS (HB1.out.trans (I4.bel.mono HB1.out.size)))
      clear HFS
      cases hD : frI S.fr s.no with
      | true =>
        rw [hD] at HFS2
        have HK2 := Lib.hid (HKN.out hD)
        clear HKN HKY hD
        go_wp2_with fail
        clear s0 x0 x1 x2 x3 x4 x5 x6 x7 x8
        refine HFS2.out.mono ?_
        rintro e w6 ⟨rfl, k6⟩
        have I5 := I4.later k6
        clear I4 XS k6
        go_wp2_with fail
        exact ⟨⟨k + 1, hs, a, c, by omega, by simp, by rw [HK2.out]; exact HGL, I5⟩, by first | omega | (simp [intOf]; omega)⟩
      | false =>
        rw [hD] at HFS2
        have HK2 := Lib.hid (HKY.out hD)
        clear HKN HKY hD
        go_wp2_with fail
        clear s0 x0 x1 x2 x3 x4 x5 x6 x7 x8
        refine HFS2.out.mono ?_
        rintro e w6 ⟨rfl, k6⟩
        have I5 := I4.later k6
        obtain ⟨s0, s1, s2, s3, _⟩ := (XS.later k6).fourG
        have c3 := I5.box.cell 3 (.slice a hs.length c) rfl
        have kL := belNew w6 (.cells #[.int .i64 s.no, .int .i64 s.gen, .int .i64 s.ende, .slice am nm cm] 60)
        have I6 := Lib.hid (I5.later kL)
        have HL := Lib.hid (RBuf.lit1 sgE w6 ⟨s.no, s.gen, s.ende, am, nm, cm⟩)
        clear I4 XS k6 I5 kL HFS2
        go_wp2_with (at_builtin; refine wpList_append_rows rfl _ _ sgE rfl B _ hs rfl I6.out.row w6.heap.size _ [⟨s.no, s.gen, s.ende, am, nm, cm⟩] rfl HL.out (by show _ * 49 ≤ _; simp only [List.length_cons, List.length_nil]; have := HHL.out; omega) ?_; intro v8 w8 r8 g8 at8; obtain ⟨a8, c8, e8⟩ := r8.form; subst e8; obtain ⟨d4, f4⟩ := I6.out.cells g8; have I9 := Lib.hid (I6.out.push a8 c8 r8 g8))
        exact ⟨⟨k + 1, hs ++ [⟨s.no, s.gen, s.ende, am, nm, cm⟩], a8, c8, by omega, by simp, HK2, by have h9 := I9.out; simp only [List.length_append, List.length_cons, List.length_nil, Nat.zero_add] at h9 ⊢; exact h9⟩, by first | omega | (simp [intOf]; omega)⟩
    · have HTK : Hid (S.g.used.take k = S.g.used) := List.take_of_length_le (by rw [HN.out]; omega)
      rw [HTK.out] at HGL
      obtain ⟨y0, y1, y2, y3, y4, y5, y6, y7, _⟩ := I.box.eightL
      have XR := HQ1.out.later I.bel
      obtain ⟨u0, u1, u2, u3, u4, u5, u6, u7, v0, v1, v2, v3, v4, v5, v6, v7⟩ := XR.eightL
      have R5 := XR.set8L (.slice aA S.g.d.sec.length cA) (.slice aB S.g.d.cache.length cB) (.int .i64 S.g.segs) (.slice a hs.length c) (.int .i64 S.g.ng) (.int .i64 S.g.ns) (.int .i64 S.g.st) (.int .i64 S.g.nv)
      obtain ⟨t0, t1, t2, t3, t4, t5, t6, t7, _⟩ := R5.eightL
      have hgg : g1 < B ∧ w.heap.size ≤ g1 := by have := HBB.out; have := HG1.out; have := HZ1.out; omega
      have bF : Below w.heap.size w (set8L wr g1 (.slice aA S.g.d.sec.length cA) (.slice aB S.g.d.cache.length cB) (.int .i64 S.g.segs) (.slice a hs.length c) (.int .i64 S.g.ng) (.int .i64 S.g.ns) (.int .i64 S.g.st) (.int .i64 S.g.nv)) := below_set8L (HB1.out.trans (I.bel.mono HB1.out.size)) hgg.2 _ _ _ _ _ _ _ _
      have RF := (I.row.shift (grown_set8L wr g1 (.slice aA S.g.d.sec.length cA) (.slice aB S.g.d.cache.length cB) (.int .i64 S.g.segs) (.slice a hs.length c) (.int .i64 S.g.ng) (.int .i64 S.g.ns) (.int .i64 S.g.st) (.int .i64 S.g.nv)) (.inr (fun e => by have := (I.row.own.lt g1 e).1; omega))).rows
      have HF : Hid (LRd (set8L wr g1 (.slice aA S.g.d.sec.length cA) (.slice aB S.g.d.cache.length cB) (.int .i64 S.g.segs) (.slice a hs.length c) (.int .i64 S.g.ng) (.int .i64 S.g.ns) (.int .i64 S.g.st) (.int .i64 S.g.nv)) (.agg #[(.slice aA S.g.d.sec.length cA), (.slice aB S.g.d.cache.length cB), .int .i64 S.g.segs, .slice a hs.length c, .int .i64 S.g.ng, .int .i64 S.g.ns, .int .i64 S.g.st, .int .i64 S.g.nv]) { S.g with used := kU S.fr S.g.used } ∧ Below w.heap.size w (set8L wr g1 (.slice aA S.g.d.sec.length cA) (.slice aB S.g.d.cache.length cB) (.int .i64 S.g.segs) (.slice a hs.length c) (.int .i64 S.g.ng) (.int .i64 S.g.ns) (.int .i64 S.g.st) (.int .i64 S.g.nv))) := ⟨⟨(.slice aA S.g.d.sec.length cA), (.slice aB S.g.d.cache.length cB), _, rfl, HDR.out.later bF, HGL.out.rd RF bF⟩, bF⟩
      have hge : ¬ (k : Int) < (n : Int) := by omega
      unfold set8L at t0 t1 t2 t3 t4 t5 t6 t7 HF
      clear I XR R5 bF RF hgg
      go_wp2
      refine bodyPost_ret (v := .agg #[(.slice aA S.g.d.sec.length cA), (.slice aB S.g.d.cache.length cB), .int .i64 S.g.segs, .slice a hs.length c, .int .i64 S.g.ng, .int .i64 S.g.ns, .int .i64 S.g.st, .int .i64 S.g.nv]) (by simp [results, Tryz.results44, go_sem, t0, t1, t2, t3, t4, t5, t6, t7]) rfl ?_
      exact ⟨_, rfl, HF.out⟩

end Go.Proofs.YtlifgcgoehkinaaGreatDoor
