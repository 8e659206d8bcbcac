/- Texts of our own, joined. -/
import Derived.Test.YtgcnebepklelpaaGreatJh
import Derived.Test.YtgcnebepklelpaaGreatJj
import Derived.Test.YtgcnebepklelpaaGreatJi
/- What records tell: the model's StateOf. -/
namespace Go.Proofs.YtgcnebepklelpaaGreat
open Go.RowKit

theorem validK_yes {l : List Itm} {x : Itm} (h1 : x.2.kind = 1) (h3 : bestR 2 x.2.valid 0 l = none) : validK l x = some x.2.valid := if_pos ⟨h1, h3⟩
theorem validK_no {l : List Itm} {x : Itm} (h : ¬ (x.2.kind = 1 ∧ bestR 2 x.2.valid 0 l = none)) : validK l x = none := if_neg h
theorem boxK_eq (l : List Itm) (v : Int) : boxK l v = ⟨v, (bestX (tellO v l)).2.user, (bestX (tellO v l)).2.name, nextOf v l, mailsOf v l⟩ := by
  unfold boxK
  cases tellO v l <;> rfl
noncomputable def stateL (l : List Itm) : List Bx := if itemsOk l then tellAll l else []

theorem StO.other {B : Nat} {w : World} {v : Value} {bs : List Bx} {hs : List BxH} (h : StO B w v bs hs) {g : Nat} (hg : g < B) (i : Nat) (u : Value) : StO B (w.setCell ⟨g, i, none⟩ u) v bs hs := by
  have sh : ∀ {α : Type} {E : Enc α} {m : Value} {l : List α}, RBuf E B w w m l → RBuf E B (w.setCell ⟨g, i, none⟩ u) (w.setCell ⟨g, i, none⟩ u) m l := fun {α E m l} hm => by
    refine hm.shift (stored_grown w g i u) ?_
    cases hb : m.ownBlock with
    | none => exact .inl rfl
    | some k => exact .inr (fun e => by cases e; have := (hm.own.lt _ hb).1; omega)
  exact ⟨sh h.row, h.len, fun j x b h1 h2 => ⟨(h.at' j x b h1 h2).1, sh (h.at' j x b h1 h2).2⟩, h.far, h.apart⟩

structure KS (w : World) (gs : Nat) (bo : Option Nat) (x : World) : Prop where
  size : w.heap.size ≤ x.heap.size
  same : ∀ g, g < w.heap.size → g ≠ gs → bo ≠ some g → x.heap[g]? = w.heap[g]?
theorem KS.drew (w : World) (gs : Nat) (bo : Option Nat) : KS w gs bo w.drew := ⟨Nat.le_refl _, fun _ _ _ _ => rfl⟩
theorem KS.later {w x y : World} {gs : Nat} {bo : Option Nat} (h : KS w gs bo x) (hb : Below x.heap.size x y) : KS w gs bo y :=
  ⟨Nat.le_trans h.size hb.size, fun g hg h1 h2 => (hb.block g (Nat.lt_of_lt_of_le hg h.size)).trans (h.same g hg h1 h2)⟩
theorem KS.grown {w x y : World} {gs : Nat} {bo : Option Nat} (h : KS w gs bo x) (hb : x.grownBy y bo) : KS w gs bo y :=
  ⟨Nat.le_trans h.size hb.size, fun g hg h1 h2 => (hb.block g (Nat.lt_of_lt_of_le hg h.size) (fun e => h2 e.symm)).trans (h.same g hg h1 h2)⟩
theorem KS.put {w x : World} {gs : Nat} {bo : Option Nat} (h : KS w gs bo x) (i : Nat) (u : Value) : KS w gs bo (x.setCell ⟨gs, i, none⟩ u) := by
  have g0 := stored_grown x gs i u
  exact ⟨Nat.le_trans h.size g0.size, fun g hg h1 h2 => (g0.block g (Nat.lt_of_lt_of_le hg h.size) (fun e => h1 (Option.some.inj e))).trans (h.same g hg h1 h2)⟩
theorem KS.cell {w x : World} {gs : Nat} {bo : Option Nat} (h : KS w gs bo x) {g i : Nat} {u : Value} (hc : w.cell? ⟨g, i, none⟩ = some u) (h1 : g ≠ gs) (h2 : bo ≠ some g) : x.cell? ⟨g, i, none⟩ = some u := by
  have hg := World.block_lt_of_cell? _ _ hc
  have e := h.same g hg h1 h2
  have : x.cell? ⟨g, i, none⟩ = w.cell? ⟨g, i, none⟩ := by
    unfold World.cell?
    rw [e]
  rw [this]; exact hc

theorem Box.but' {w X : World} {b : Nat} {cs : Array Value} {t : TypeId} {r : Option Nat} (h : Box w b cs t) (hg : w.grownBy X r) (hne : ∀ k, r = some k → k ≠ b) : Box X b cs t := (hg.block b h.lt (fun e => hne b e.symm rfl)).trans h
theorem grown_later {w x y : World} {r : Option Nat} (h : w.grownBy x r) (hb : Below x.heap.size x y) : w.grownBy y r :=
  ⟨hb.os.trans h.os, hb.tape.trans h.tape, hb.output.trans h.output, Nat.le_trans h.size hb.size, fun k hk hne => (hb.block k (Nat.lt_of_lt_of_le hk h.size)).trans (h.block k hk hne)⟩
theorem grown_mine {w x y : World} {gs : Nat} {r : Option Nat} (h : w.grownBy x (some gs)) (hg : x.grownBy y r) (hr : ∀ k, r = some k → w.heap.size ≤ k) : w.grownBy y (some gs) :=
  ⟨hg.os.trans h.os, hg.tape.trans h.tape, hg.output.trans h.output, Nat.le_trans h.size hg.size, fun k hk hne => (hg.block k (Nat.lt_of_lt_of_le hk h.size) (fun e => by have := hr k e.symm; omega)).trans (h.block k hk hne)⟩
theorem Rows'.but {α : Type} {E : Enc α} {w wa X : World} {v : Value} {l : List α} {gs : Nat} (h : Rows' E w v l) (hb : Below w.heap.size w wa) (hg : wa.grownBy X (some gs)) (hlt : w.heap.size ≤ gs) : Rows' E X v l := by
  rcases h with h | ⟨g, off, cap, hv, hc, hgl, hcl⟩
  · exact .inl h
  · refine .inr ⟨g, off, cap, hv, hc, Nat.lt_of_lt_of_le hgl (Nat.le_trans hb.size hg.size), fun j x hj k u hk => ?_⟩
    exact hg.cell ((hb.cell (p := ⟨g, off + j * E.sz + k, none⟩) hgl).trans (hcl j x hj k u hk)) (fun e => by have := Option.some.inj e; dsimp only at this; omega)

set_option maxRecDepth 100000 in
set_option maxHeartbeats 8000000 in
theorem specStateOf_any (l : List Itm) (v : Value) (w : World) (h : Rows' itE w v l) (hl : l.length ≤ 1099511627776) (hsz : ∀ x ∈ l, x.2.user.size ≤ 1099511627776 ∧ x.2.name.size ≤ 1099511627776 ∧ x.2.text.size ≤ 1099511627776) :
    Calls Tryz.prog 15 #[v] w fun e w' => ∃ bv hs, e = .returned (.agg #[bv]) ∧ StO w.heap.size w' bv (stateL l) hs ∧ Below w.heap.size w w' := by
  have HW : Hid (∀ X, Below w.heap.size w X → Rows' itE X v l) := fun X hb => h.later hb
  have HB : Hid (∀ wa X gs, Below w.heap.size w wa → wa.grownBy X (some gs) → w.heap.size ≤ gs → Rows' itE X v l) := fun wa X gs h1 h2 h3 => h.but h1 h2 h3
  obtain ⟨ad, cap, rfl, hrow⟩ := h.items
  have HR := Lib.hid hrow
  have HIO : Hid (∀ X, Below w.heap.size w X → Calls Tryz.prog 30 #[.slice ad l.length cap] X fun e w' => e = .returned (.bool (decide (itemsOk l))) ∧ Below X.heap.size X w') := fun X hb => specItemsOk_any l _ X (HW.out X hb) hl hsz
  clear h hrow hsz
  have b0 : Below w.heap.size w (w.alloc (.cells #[.slice none 0 0] 35)) := belNew _ _
  have b1 := b0.trans ((belNew (w.alloc (.cells #[.slice none 0 0] 35)) (.cells #[.slice none 0 0] 35)).mono b0.size)
  have x2 := (Box.new w #[.slice none 0 0] 35).later (belNew _ (.cells #[.slice none 0 0] 35))
  have xs := Box.new (w.alloc (.cells #[.slice none 0 0] 35)) #[.slice none 0 0] 35
  have hg : (w.alloc (.cells #[.slice none 0 0] 35)).heap.size = w.heap.size + 1 := by simp
  rw [hg] at xs
  clear b0 hg
  go_enter Tryz.func15, Tryz.ntmps15
  go_wp2_with fail
  obtain ⟨gs, hgs⟩ : ∃ gs, w.heap.size + 1 = gs := ⟨_, rfl⟩
  rw [hgs] at xs ⊢
  have hlt : w.heap.size < gs := by omega
  clear hgs
  generalize (w.alloc (.cells #[.slice none 0 0] 35)).alloc (.cells #[.slice none 0 0] 35) = W0 at b1 x2 xs ⊢
  refine (HIO.out _ b1).mono ?_
  rintro e w2 ⟨rfl, k2⟩
  have b2 := b1.trans (k2.mono b1.size)
  have x2 := x2.later k2
  have xs := xs.later k2
  clear HIO k2 b1
  by_cases hok : itemsOk l
  rotate_left
  · rw [decide_eq_false hok]
    have HS : Hid (stateL l = []) := if_neg hok
    have c0 := xs.cell 0 _ rfl
    have d0 := x2.cell 0 _ rfl
    have f0 := x2.loose 0
    have z2 := x2.set 0 (.slice none 0 0)
    have q0 := z2.cell 0 _ rfl
    clear hok
    go_wp2
    refine bodyPost_ret (v := .agg #[.slice none 0 0]) (by simp [results, Tryz.results15, go_sem, d0]) rfl ?_
    exact ⟨_, [], rfl, by rw [HS.out]; exact (StO.nil _).lower (by have := b2.size; simp; omega), b2.setCell (p := ⟨w.heap.size, 0, none⟩) (Nat.le_refl _) _⟩
  rw [decide_eq_true hok]
  have HS : Hid (stateL l = tellAll l) := if_pos hok
  have HOK := Lib.hid hok
  have hl2 : l.length ≤ 200 := hok.2.2
  clear hok hl
  have I0 := IBuf.fresh w2
  go_wp2
  go_loopw [4, 5] (fun uv iv wr => ∃ i : Nat, i ≤ l.length ∧ iv = .int .i64 (i : Int) ∧ IBuf w2.heap.size w2 wr uv (upOf (validK l) (l.take i))) (fun _ iv _ => l.length - (intOf iv).toNat)
  case atStart => exact ⟨0, by omega, rfl, I0⟩
  case round =>
    clear I0
    obtain ⟨i, hi, rfl, I⟩ := hrel
    have hlu := upOf_len (validK l) l i
    by_cases hlt2 : i < l.length
    · have hgx : l[i]? = some l[i] := List.getElem?_eq_getElem hlt2
      have hst := upOf_take (f := validK l) hgx
      obtain ⟨ga, oa, rfl, a0, a1, a2, a3, a4, a5, a6, a7, a8⟩ := HR.out _ (b2.trans (I.bel.mono b2.size)) i _ hgx
      generalize l[i] = x at *
      obtain ⟨sq, K, V, U, N, FL, US, NM, TX⟩ := x
      simp only at a0 a1 a2 a3 a4 a5 a6 a7 a8
      generalize upOf (validK l) (l.take i) = us at *
      have HST := Lib.hid hst
      have hi0 : (0 : Int) ≤ (i : Int) := by omega
      have hi1 : (i : Int) < (l.length : Int) := by omega
      clear hst hgx
      have J1 := I.alloc (.cells #[.int .i64 K, .int .i64 V, .int .i64 U, .int .i64 N, .int .i64 FL, .string US, .string NM, .string TX] 67)
      have X1 := Box.new wr #[.int .i64 K, .int .i64 V, .int .i64 U, .int .i64 N, .int .i64 FL, .string US, .string NM, .string TX] 67
      obtain ⟨o, ho⟩ : ∃ o, bestR 2 V 0 l = o := ⟨_, rfl⟩
      have HO := Lib.hid ho
      obtain ⟨z0, z1, z2, z3, z4, z5, z6, z7, _⟩ := X1.eight
      clear I
      go_wp2_with fail
      clear a0 a1 a2 a3 a4 a5 a6 a7 a8 z0 z1 z2 z3 z4 z5 z6 z7
      generalize wr.alloc (.cells #[.int .i64 K, .int .i64 V, .int .i64 U, .int .i64 N, .int .i64 FL, .string US, .string NM, .string TX] 67) = w1 at J1 X1 ⊢
      generalize wr.heap.size = g7 at X1 ⊢
      refine (specBest_any l _ 2 V 0 _ (HW.out _ (b2.trans (J1.bel.mono b2.size))) (by omega)).mono ?_
      rintro e w4 ⟨rfl, k2⟩
      rw [bestT_eq, ho]
      unfold itV
      have J2 := (J1.later k2).alloc (.cells #[.int .i64 (bestX o).1, .int .i64 (bestX o).2.kind, .int .i64 (bestX o).2.valid, .int .i64 (bestX o).2.uid, .int .i64 (bestX o).2.next, .int .i64 (bestX o).2.flags, .string (bestX o).2.user, .string (bestX o).2.name, .string (bestX o).2.text] 69)
      have X2 := (X1.later k2).later (belNew w4 (.cells #[.int .i64 (bestX o).1, .int .i64 (bestX o).2.kind, .int .i64 (bestX o).2.valid, .int .i64 (bestX o).2.uid, .int .i64 (bestX o).2.next, .int .i64 (bestX o).2.flags, .string (bestX o).2.user, .string (bestX o).2.name, .string (bestX o).2.text] 69))
      clear J1 X1 k2 ho
      go_upto_region 10 with fail
      generalize w4.alloc (.cells #[.int .i64 (bestX o).1, .int .i64 (bestX o).2.kind, .int .i64 (bestX o).2.valid, .int .i64 (bestX o).2.uid, .int .i64 (bestX o).2.next, .int .i64 (bestX o).2.flags, .string (bestX o).2.user, .string (bestX o).2.name, .string (bestX o).2.text] 69) = w3 at J2 X2 ⊢
      generalize w4.heap.size = g8
      obtain ⟨z0, z1, z2, z3, z4, z5, z6, z7, _⟩ := X2.eight
      by_cases hK : K = 1
      · subst hK
        cases o with
        | none =>
          have HE : Hid (upOf (validK l) (l.take (i + 1)) = insI us V) := up_yes HST.out (validK_yes (x := (sq, ⟨1, V, U, N, FL, US, NM, TX⟩)) rfl HO.out)
          have hn : (none : Option Itm).isSome = false := rfl
          go_wp2_with fail
          refine (specSorted_any us _ V _ J2.ints (by omega)).mono ?_
          rintro e w5 ⟨v4, rfl, J4⟩
          have J5 := IBuf.under J2.bel J4
          clear J4 J2 X2 z0 z1 z2 z3 z4 z5 z6 z7
          go_wp2
          exact ⟨⟨i + 1, by omega, by simp, by rw [HE.out]; exact J5⟩, by first | omega | (simp [intOf]; omega)⟩
        | some y =>
          have HE : Hid (upOf (validK l) (l.take (i + 1)) = us) := up_no HST.out (validK_no (x := (sq, ⟨1, V, U, N, FL, US, NM, TX⟩)) (fun c => by have := c.2; simp only at this; rw [HO.out] at this; cases this))
          have hn : (some y : Option Itm).isSome = true := rfl
          clear X2
          go_wp2
          exact ⟨⟨i + 1, by omega, by simp, by rw [HE.out]; exact J2⟩, by first | omega | (simp [intOf]; omega)⟩
      · have HE : Hid (upOf (validK l) (l.take (i + 1)) = us) := up_no HST.out (validK_no (x := (sq, ⟨K, V, U, N, FL, US, NM, TX⟩)) (fun c => hK c.1))
        have hK2 : (K == 1) = false := beq_eq_false_iff_ne.2 hK
        clear X2
        go_wp2
        exact ⟨⟨i + 1, by omega, by simp, by rw [HE.out]; exact J2⟩, by first | omega | (simp [intOf]; omega)⟩
    · have hge : ¬ (i : Int) < (l.length : Int) := by omega
      have hil : i = l.length := by omega
      have HM : Hid (stateL l = (upOf (validK l) (l.take i)).map (boxK l)) := by
        show stateL l = _
        rw [HS.out, hil, List.take_length]; rfl
      generalize upOf (validK l) (l.take i) = vs at *
      clear hil
      obtain ⟨wa, hwa⟩ : ∃ wa, wa = wr := ⟨_, rfl⟩
      subst hwa
      have b3 := b2.trans (I.bel.mono b2.size)
      have y2 := x2.later (I.bel)
      have ys := xs.later (I.bel)
      have hiu := I.ints
      have hgs2 := xs.lt
      obtain ⟨ua, uc, rfl, hur⟩ : ∃ (ua : Option Addr) (uc : Nat), u4 = .slice ua vs.length uc ∧ ∀ j b, vs[j]? = some b → ∃ g, ua = some ⟨g, 0, none⟩ ∧ g ≠ gs ∧ g < wa.heap.size ∧ ∀ X, wa.grownBy X (some gs) → X.cell? ⟨g, j, none⟩ = some (.int .i64 b) := by
        obtain ⟨a, c, hv⟩ := I.form
        refine ⟨a, c, hv, fun j b hj => ?_⟩
        rcases hiu with ⟨rfl, _⟩ | ⟨g, c2, hv2, hc, hg, hcl⟩
        · cases hj
        · rw [hv] at hv2
          cases hv2
          have hown := (I.own.lt g (by rw [hv]; rfl)).1
          have hne : g ≠ gs := by omega
          exact ⟨g, rfl, hne, hg, fun X hb => hb.cell (hcl j b hj) (fun e => hne (Option.some.inj e))⟩
      have HUR := Lib.hid hur
      have HWA : Hid (∀ X, wa.grownBy X (some gs) → Rows' itE X (.slice ad l.length cap) l) := fun X hX => HB.out wa X gs b3 hX (Nat.le_of_lt hlt)
      have HWL : Hid (w2.heap.size ≤ wa.heap.size) := I.le
      have S0 := StO.nil wa
      clear hur hiu I x2 xs
      go_wp2
      clear hge
      go_loopw [9] (fun iv wr => ∃ (j : Nat) (bv : Value) (hs : List BxH), j ≤ vs.length ∧ iv = .int .i64 (j : Int) ∧ StO wa.heap.size wr bv ((vs.take j).map (boxK l)) hs ∧ Box wr gs #[bv] 35 ∧ wa.grownBy wr (some gs)) (fun iv _ => vs.length - (intOf iv).toNat)
      case atStart => exact ⟨0, _, [], by omega, rfl, S0, ys, World.grownBy.refl wa (some gs)⟩
      case round =>
        clear S0 ys
        obtain ⟨j, bv, hs, hj, rfl, SX, BX, GX⟩ := hrel
        by_cases hlj : j < vs.length
        · have hgv : vs[j]? = some vs[j] := List.getElem?_eq_getElem hlj
          have htk : (vs.take (j + 1)).map (boxK l) = (vs.take j).map (boxK l) ++ [boxK l vs[j]] := by
            rw [List.take_add_one, hgv, List.map_append]; rfl
          have hhl : hs.length ≤ 1000 := by have := SX.len; simp at this; omega
          obtain ⟨ug, rfl, hugs, hug, hcu⟩ := HUR.out j _ hgv
          generalize vs[j] = vd at *
          have HTK := Lib.hid htk
          have HCU := Lib.hid hcu
          have hj0 : (0 : Int) ≤ (j : Int) := by omega
          have hj1 : (j : Int) < (vs.length : Int) := by omega
          obtain ⟨ba, bc, rfl⟩ := SX.row.form
          have c0 := hcu _ GX
          clear htk hgv hcu
          have HOKS : Hid ((∀ x ∈ l, x.1 ≠ 0) ∧ ∀ x ∈ l, x.2.ok) := ⟨fun x hx => by have := (HOK.out.1 x hx).1; omega, fun x hx => (HOK.out.1 x hx).2⟩
          go_wp2_with fail
          clear c0
          refine (specTell_any l _ vd _ (HWA.out _ GX) (by omega) HOKS.out.1).mono ?_
          rintro e w1 ⟨rfl, k1⟩
          have HBK0 := boxK_eq l vd
          obtain ⟨y, hy⟩ : ∃ y, bestX (tellO vd l) = y := ⟨_, rfl⟩
          rw [hy] at HBK0 ⊢
          have HBK := Lib.hid HBK0
          clear hy HBK0
          unfold itV
          have hgw : gs < w1.heap.size := by have := BX.lt; have := k1.size; omega
          have hbw1 : ∀ k, (Value.slice ba hs.length bc).ownBlock = some k → wa.heap.size ≤ k ∧ k < w1.heap.size := fun k hk => ⟨(SX.row.own.lt k hk).1, Nat.lt_of_lt_of_le (SX.row.own.lt k hk).2 k1.size⟩
          replace SX := (SX.later k1).later (belNew w1 (.cells #[.int .i64 y.1, .int .i64 y.2.kind, .int .i64 y.2.valid, .int .i64 y.2.uid, .int .i64 y.2.next, .int .i64 y.2.flags, .string y.2.user, .string y.2.name, .string y.2.text] 69))
          replace BX := (BX.later k1).later (belNew w1 (.cells #[.int .i64 y.1, .int .i64 y.2.kind, .int .i64 y.2.valid, .int .i64 y.2.uid, .int .i64 y.2.next, .int .i64 y.2.flags, .string y.2.user, .string y.2.name, .string y.2.text] 69))
          replace GX := grown_later (grown_later GX k1) (belNew w1 (.cells #[.int .i64 y.1, .int .i64 y.2.kind, .int .i64 y.2.valid, .int .i64 y.2.uid, .int .i64 y.2.next, .int .i64 y.2.flags, .string y.2.user, .string y.2.name, .string y.2.text] 69))
          have YX := Box.new w1 #[.int .i64 y.1, .int .i64 y.2.kind, .int .i64 y.2.valid, .int .i64 y.2.uid, .int .i64 y.2.next, .int .i64 y.2.flags, .string y.2.user, .string y.2.name, .string y.2.text] 69
          clear k1
          go_upto_region 16 with fail
          generalize w1.alloc (.cells #[.int .i64 y.1, .int .i64 y.2.kind, .int .i64 y.2.valid, .int .i64 y.2.uid, .int .i64 y.2.next, .int .i64 y.2.flags, .string y.2.user, .string y.2.name, .string y.2.text] 69) = w3 at SX BX GX YX ⊢
          generalize w1.heap.size = gi at YX hgw hbw1 ⊢
          have cu := HCU.out _ GX
          have p6 := YX.cell 6 _ rfl
          have p7 := YX.cell 7 _ rfl
          obtain ⟨bo, hbo⟩ : ∃ bo, (Value.slice ba hs.length bc).ownBlock = bo := ⟨_, rfl⟩
          have rU : ∀ x, KS w3 gs bo x → x.cell? ⟨ug, j, none⟩ = some (.int .i64 vd) := fun x hx => hx.cell cu hugs (by rw [← hbo]; intro e; have := (hbw1 _ e).1; omega)
          have r6 : ∀ x, KS w3 gs bo x → x.cell? ⟨gi, 6, none⟩ = some (.string y.2.user) := fun x hx => hx.cell p6 (by omega) (by rw [← hbo]; intro e; have := (hbw1 _ e).2; omega)
          have r7 : ∀ x, KS w3 gs bo x → x.cell? ⟨gi, 7, none⟩ = some (.string y.2.name) := fun x hx => hx.cell p7 (by omega) (by rw [← hbo]; intro e; have := (hbw1 _ e).2; omega)
          subst hbo
          have hgsB : gs < wa.heap.size := Nat.lt_of_lt_of_le hgs2 HWL.out
          clear cu p6 p7 YX hgw hbw1
          refine wp_region_held_drew (S := KS w3 gs (Value.slice ba hs.length bc).ownBlock) (by kernel_rfl) (KS.drew _ _ _) (fun hHeld => ?_)
          refine takeL (i := 0) (v := .pointer (some ⟨gs, 0, none⟩)) rfl (by kernel_rfl) (by kernel_rfl) (by kernel_rfl) (fun _ _ _ h => h) (Or.inl ⟨by rfl, ?_⟩) (by assumption) ?_
          · intro x hSx; go_simp
          try simp only [Act.put, List.setIfInBounds_toArray, List.set_cons_zero, List.set_cons_succ]
          refine takeL (i := 2) (v := .slice (some ⟨ug, 0, none⟩) vs.length uc) rfl (by kernel_rfl) (by kernel_rfl) (by kernel_rfl) (fun _ _ _ h => h) (Or.inl ⟨by rfl, ?_⟩) (by assumption) ?_
          · intro x hSx; go_simp
          try simp only [Act.put, List.setIfInBounds_toArray, List.set_cons_zero, List.set_cons_succ]
          refine takeL (i := 3) (v := .int .i64 (j : Int)) rfl (by kernel_rfl) (by kernel_rfl) (by kernel_rfl) (fun _ _ _ h => h) (Or.inl ⟨by rfl, ?_⟩) (by assumption) ?_
          · intro x hSx; go_simp
          try simp only [Act.put, List.setIfInBounds_toArray, List.set_cons_zero, List.set_cons_succ]
          refine takeL (i := 4) (v := .pointer (some ⟨ug, j, none⟩)) rfl (by kernel_rfl) (by kernel_rfl) (by kernel_rfl) (fun _ _ _ h => h) (Or.inl ⟨by rfl, ?_⟩) (by assumption) ?_
          · intro x hSx; go_simp
          try simp only [Act.put, List.setIfInBounds_toArray, List.set_cons_zero, List.set_cons_succ]
          refine takeL (i := 5) (v := .int .i64 vd) rfl (by kernel_rfl) (by kernel_rfl) (by kernel_rfl) (fun _ _ _ h => h) (Or.inl ⟨by rfl, ?_⟩) (by assumption) ?_
          · intro x hSx; have rr := rU x hSx; go_simp
          try simp only [Act.put, List.setIfInBounds_toArray, List.set_cons_zero, List.set_cons_succ]
          refine takeL (i := 6) (v := .pointer (some ⟨gi, 1, none⟩)) rfl (by kernel_rfl) (by kernel_rfl) (by kernel_rfl) (fun _ _ _ h => h) (Or.inl ⟨by rfl, ?_⟩) (by assumption) ?_
          · intro x hSx; go_simp
          try simp only [Act.put, List.setIfInBounds_toArray, List.set_cons_zero, List.set_cons_succ]
          refine takeL (i := 7) (v := .pointer (some ⟨gi, 6, none⟩)) rfl (by kernel_rfl) (by kernel_rfl) (by kernel_rfl) (fun _ _ _ h => h) (Or.inl ⟨by rfl, ?_⟩) (by assumption) ?_
          · intro x hSx; go_simp
          try simp only [Act.put, List.setIfInBounds_toArray, List.set_cons_zero, List.set_cons_succ]
          refine takeL (i := 8) (v := .string y.2.user) rfl (by kernel_rfl) (by kernel_rfl) (by kernel_rfl) (fun _ _ _ h => h) (Or.inl ⟨by rfl, ?_⟩) (by assumption) ?_
          · intro x hSx; have rr := r6 x hSx; go_simp
          try simp only [Act.put, List.setIfInBounds_toArray, List.set_cons_zero, List.set_cons_succ]
          refine takeL (i := 9) (v := .pointer (some ⟨gi, 1, none⟩)) rfl (by kernel_rfl) (by kernel_rfl) (by kernel_rfl) (fun _ _ _ h => h) (Or.inl ⟨by rfl, ?_⟩) (by assumption) ?_
          · intro x hSx; go_simp
          try simp only [Act.put, List.setIfInBounds_toArray, List.set_cons_zero, List.set_cons_succ]
          refine takeL (i := 10) (v := .pointer (some ⟨gi, 7, none⟩)) rfl (by kernel_rfl) (by kernel_rfl) (by kernel_rfl) (fun _ _ _ h => h) (Or.inl ⟨by rfl, ?_⟩) (by assumption) ?_
          · intro x hSx; go_simp
          try simp only [Act.put, List.setIfInBounds_toArray, List.set_cons_zero, List.set_cons_succ]
          refine takeL (i := 11) (v := .string y.2.name) rfl (by kernel_rfl) (by kernel_rfl) (by kernel_rfl) (fun _ _ _ h => h) (Or.inl ⟨by rfl, ?_⟩) (by assumption) ?_
          · intro x hSx; have rr := r7 x hSx; go_simp
          try simp only [Act.put, List.setIfInBounds_toArray, List.set_cons_zero, List.set_cons_succ]
          refine takeL (i := 12) (v := .slice ad l.length cap) rfl (by kernel_rfl) (by kernel_rfl) (by kernel_rfl) (fun _ _ _ h => h) (Or.inl ⟨by rfl, ?_⟩) (by assumption) ?_
          · intro x hSx; go_simp
          try simp only [Act.put, List.setIfInBounds_toArray, List.set_cons_zero, List.set_cons_succ]
          refine takeL (i := 13) (v := .slice (some ⟨ug, 0, none⟩) vs.length uc) rfl (by kernel_rfl) (by kernel_rfl) (by kernel_rfl) (fun _ _ _ h => h) (Or.inl ⟨by rfl, ?_⟩) (by assumption) ?_
          · intro x hSx; go_simp
          try simp only [Act.put, List.setIfInBounds_toArray, List.set_cons_zero, List.set_cons_succ]
          refine takeL (i := 14) (v := .int .i64 (j : Int)) rfl (by kernel_rfl) (by kernel_rfl) (by kernel_rfl) (fun _ _ _ h => h) (Or.inl ⟨by rfl, ?_⟩) (by assumption) ?_
          · intro x hSx; go_simp
          try simp only [Act.put, List.setIfInBounds_toArray, List.set_cons_zero, List.set_cons_succ]
          refine takeL (i := 15) (v := .pointer (some ⟨ug, j, none⟩)) rfl (by kernel_rfl) (by kernel_rfl) (by kernel_rfl) (fun _ _ _ h => h) (Or.inl ⟨by rfl, ?_⟩) (by assumption) ?_
          · intro x hSx; go_simp
          try simp only [Act.put, List.setIfInBounds_toArray, List.set_cons_zero, List.set_cons_succ]
          refine takeL (i := 16) (v := .int .i64 vd) rfl (by kernel_rfl) (by kernel_rfl) (by kernel_rfl) (fun _ _ _ h => h) (Or.inl ⟨by rfl, ?_⟩) (by assumption) ?_
          · intro x hSx; have rr := rU x hSx; go_simp
          try simp only [Act.put, List.setIfInBounds_toArray, List.set_cons_zero, List.set_cons_succ]
          refine takeL (i := 18) (v := .slice ad l.length cap) rfl (by kernel_rfl) (by kernel_rfl) (by kernel_rfl) (fun _ _ _ h => h) (Or.inl ⟨by rfl, ?_⟩) (by assumption) ?_
          · intro x hSx; go_simp
          try simp only [Act.put, List.setIfInBounds_toArray, List.set_cons_zero, List.set_cons_succ]
          refine takeL (i := 19) (v := .slice (some ⟨ug, 0, none⟩) vs.length uc) rfl (by kernel_rfl) (by kernel_rfl) (by kernel_rfl) (fun _ _ _ h => h) (Or.inl ⟨by rfl, ?_⟩) (by assumption) ?_
          · intro x hSx; go_simp
          try simp only [Act.put, List.setIfInBounds_toArray, List.set_cons_zero, List.set_cons_succ]
          refine takeL (i := 20) (v := .int .i64 (j : Int)) rfl (by kernel_rfl) (by kernel_rfl) (by kernel_rfl) (fun _ _ _ h => h) (Or.inl ⟨by rfl, ?_⟩) (by assumption) ?_
          · intro x hSx; go_simp
          try simp only [Act.put, List.setIfInBounds_toArray, List.set_cons_zero, List.set_cons_succ]
          refine takeL (i := 21) (v := .pointer (some ⟨ug, j, none⟩)) rfl (by kernel_rfl) (by kernel_rfl) (by kernel_rfl) (fun _ _ _ h => h) (Or.inl ⟨by rfl, ?_⟩) (by assumption) ?_
          · intro x hSx; go_simp
          try simp only [Act.put, List.setIfInBounds_toArray, List.set_cons_zero, List.set_cons_succ]
          refine takeL (i := 22) (v := .int .i64 vd) rfl (by kernel_rfl) (by kernel_rfl) (by kernel_rfl) (fun _ _ _ h => h) (Or.inl ⟨by rfl, ?_⟩) (by assumption) ?_
          · intro x hSx; have rr := rU x hSx; go_simp
          try simp only [Act.put, List.setIfInBounds_toArray, List.set_cons_zero, List.set_cons_succ]
          replace SX := SX.later ((Below.refl w3.heap.size w3).drew)
          replace BX := BX.later ((Below.refl w3.heap.size w3).drew)
          replace GX := grown_later GX ((Below.refl w3.heap.size w3).drew)
          clear rU r6 r7
          refine wpAnyH_ready (rs := [1, 17]) (by kernel_rfl) (by simp) ?_
          refine readyTwo rfl rfl (fun K' hK => ?_) (fun K' hK => ?_)
          · have cL := BX.cell 0 _ rfl
            go_simp
            clear cL
            refine hK.out _ _ (hHeld) (fun hS2 => ?_)
            clear hK K' hHeld
            have hHeld := hS2
            clear hS2
            try simp only [Act.put, List.setIfInBounds_toArray, List.set_cons_zero, List.set_cons_succ]
            refine wpAnyH_ready (rs := [17]) (by kernel_rfl) (by simp) ?_
            refine readyOne rfl (fun K' hK => ?_)
            go_simp
            refine (specNext_any l _ vd _ (HWA.out _ GX) (by omega) HOKS.out.2).mono ?_
            rintro e wN ⟨rfl, kN⟩
            go_wp2_with fail
            refine hK.out _ _ (hHeld.later kN) (fun hS2 => ?_)
            clear hK K' hHeld
            have hHeld := hS2
            clear hS2
            try simp only [Act.put, List.setIfInBounds_toArray, List.set_cons_zero, List.set_cons_succ]
            replace SX := SX.later kN
            replace BX := BX.later kN
            replace GX := grown_later GX kN
            clear kN
            refine wpAnyH_ready (rs := [23]) (by kernel_rfl) (by simp) ?_
            refine readyOne rfl (fun K' hK => ?_)
            go_simp
            refine (specMails_any l _ vd _ (HWA.out _ GX) (by omega)).mono ?_
            rintro e wM ⟨mv, rfl, RM⟩
            obtain ⟨ma, mc, rfl⟩ := RM.form
            go_wp2_with fail
            refine hK.out _ _ (hHeld.later RM.bel) (fun hS2 => ?_)
            clear hK K' hHeld
            have hHeld := hS2
            clear hS2
            try simp only [Act.put, List.setIfInBounds_toArray, List.set_cons_zero, List.set_cons_succ]
            have HV : Hid (∀ k, (Value.slice ma (mailsOf vd l).length mc).ownBlock = some k → (Value.slice ba hs.length bc).ownBlock ≠ some k) := fun k hk e => by
              have h1 := (RM.own.lt k hk).1
              have h2 := (SX.row.own.lt k e).2
              omega
            have HO2 : Hid (∀ (j : Nat) (y : BxH), hs[j]? = some y → ∀ k, y.mv.ownBlock = some k → (Value.slice ma (mailsOf vd l).length mc).ownBlock ≠ some k) := fun j y hy k hk e => by
              have h1 := (RM.own.lt k e).1
              have h2 := SX.lt hy hk
              omega
            replace SX := SX.later RM.bel
            replace BX := BX.later RM.bel
            have RM2 := RM.here.lower (Nat.le_trans (show wa.heap.size ≤ wN.heap.size from GX.size) (Nat.le_refl _))
            replace GX := grown_later GX RM.bel
            clear RM
            refine takeL (i := 24) (v := .agg #[.int .i64 vd, .string y.2.user, .string y.2.name, .int .i64 (nextOf vd l), .slice ma (mailsOf vd l).length mc]) rfl (by kernel_rfl) (by kernel_rfl) (by kernel_rfl) (fun _ _ _ h => h) (Or.inl ⟨by rfl, ?_⟩) (by assumption) ?_
            · intro x hSx; go_simp
            try simp only [Act.put, List.setIfInBounds_toArray, List.set_cons_zero, List.set_cons_succ]
            refine wpAnyH_ready (rs := [25]) (by kernel_rfl) (by simp) ?_
            refine readyOne rfl (fun K' hK => ?_)
            go_simp
            refine hK.out _ _ (hHeld.later (belNew wM (.cells #[.int .i64 vd, .string y.2.user, .string y.2.name, .int .i64 (nextOf vd l), .slice ma (mailsOf vd l).length mc] 78))) (fun hS2 => ?_)
            clear hK K' hHeld
            have hHeld := hS2
            clear hS2
            try simp only [Act.put, List.setIfInBounds_toArray, List.set_cons_zero, List.set_cons_succ]
            have L1 := RBuf.lit1 hdE wM ⟨vd, y.2.user, y.2.name, nextOf vd l, ma, (mailsOf vd l).length, mc⟩
            replace SX := SX.later (belNew wM (.cells #[.int .i64 vd, .string y.2.user, .string y.2.name, .int .i64 (nextOf vd l), .slice ma (mailsOf vd l).length mc] 78))
            replace BX := BX.later (belNew wM (.cells #[.int .i64 vd, .string y.2.user, .string y.2.name, .int .i64 (nextOf vd l), .slice ma (mailsOf vd l).length mc] 78))
            replace RM2 := RM2.here' (belNew wM (.cells #[.int .i64 vd, .string y.2.user, .string y.2.name, .int .i64 (nextOf vd l), .slice ma (mailsOf vd l).length mc] 78))
            replace GX := grown_later GX (belNew wM (.cells #[.int .i64 vd, .string y.2.user, .string y.2.name, .int .i64 (nextOf vd l), .slice ma (mailsOf vd l).length mc] 78))
            refine wpAnyH_ready (rs := [26]) (by kernel_rfl) (by simp) ?_
            refine readyOne rfl (fun K' hK => ?_)
            refine step_append_rows rfl _ _ hdE rfl wa.heap.size _ hs rfl SX.row _ _ [⟨vd, y.2.user, y.2.name, nextOf vd l, ma, (mailsOf vd l).length, mc⟩] rfl L1 (by show _ * 73 ≤ _; simp only [List.length_cons, List.length_nil]; omega) ?_
            intro v' w' r g at' hlt'
            obtain ⟨va, vc, hvf⟩ := r.form
            simp only [List.length_append, List.length_cons, List.length_nil, Nat.zero_add] at hvf
            subst hvf
            refine hK.out _ _ (hHeld.grown g) (fun hS2 => ?_)
            clear hK K' hHeld
            have hHeld := hS2
            clear hS2
            try simp only [Act.put, List.setIfInBounds_toArray, List.set_cons_zero, List.set_cons_succ]
            have PX := SX.push (b := boxK l vd) (x := ⟨vd, y.2.user, y.2.name, nextOf vd l, ma, (mailsOf vd l).length, mc⟩) (by rw [HBK.out]; exact ⟨rfl, rfl, rfl, rfl⟩) (by rw [HBK.out]; exact RM2) HV.out HO2.out r g at'
            replace BX := BX.but' g (fun k hk => by have := (hlt' k hk).1; omega)
            replace GX := grown_mine GX g (fun k hk => (hlt' k hk).1)
            clear SX RM2 L1 r g at' hlt'
            refine takeL (i := 27) (v := .pointer (some ⟨gs, 0, none⟩)) rfl (by kernel_rfl) (by kernel_rfl) (by kernel_rfl) (fun _ _ _ h => h) (Or.inl ⟨by rfl, ?_⟩) (by assumption) ?_
            · intro x hSx; go_simp
            try simp only [Act.put, List.setIfInBounds_toArray, List.set_cons_zero, List.set_cons_succ]
            refine wpAnyH_ready (rs := [28]) (by kernel_rfl) (by simp) ?_
            refine readyOne rfl (fun K' hK => ?_)
            have cL := BX.cell 0 _ rfl
            have cF := BX.loose 0
            go_simp
            clear cL cF
            refine hK.out _ _ (hHeld.put 0 _) (fun hS2 => ?_)
            clear hK K' hHeld
            have hHeld := hS2
            clear hS2
            try simp only [Act.put, List.setIfInBounds_toArray, List.set_cons_zero, List.set_cons_succ]
            refine wpAnyH_done (by kernel_rfl) ?_ _
            have FX := PX.other (g := gs) (by omega) 0 (.slice va (hs.length + 1) vc)
            have FB := BX.set 0 (.slice va (hs.length + 1) vc)
            have FG := GX.trans (stored_grown w' gs 0 (.slice va (hs.length + 1) vc))
            clear PX BX GX
            go_wp2
            exact ⟨⟨j + 1, _, _, by omega, by simp, by rw [HTK.out]; exact FX, FB, FG⟩, by first | omega | (simp [intOf]; omega)⟩
          · go_simp
            refine (specNext_any l _ vd _ (HWA.out _ GX) (by omega) HOKS.out.2).mono ?_
            rintro e wN ⟨rfl, kN⟩
            go_wp2_with fail
            refine hK.out _ _ (hHeld.later kN) (fun hS2 => ?_)
            clear hK K' hHeld
            have hHeld := hS2
            clear hS2
            try simp only [Act.put, List.setIfInBounds_toArray, List.set_cons_zero, List.set_cons_succ]
            replace SX := SX.later kN
            replace BX := BX.later kN
            replace GX := grown_later GX kN
            clear kN
            refine wpAnyH_ready (rs := [1, 23]) (by kernel_rfl) (by simp) ?_
            refine readyTwo rfl rfl (fun K' hK => ?_) (fun K' hK => ?_)
            · have cL := BX.cell 0 _ rfl
              go_simp
              clear cL
              refine hK.out _ _ (hHeld) (fun hS2 => ?_)
              clear hK K' hHeld
              have hHeld := hS2
              clear hS2
              try simp only [Act.put, List.setIfInBounds_toArray, List.set_cons_zero, List.set_cons_succ]
              refine wpAnyH_ready (rs := [23]) (by kernel_rfl) (by simp) ?_
              refine readyOne rfl (fun K' hK => ?_)
              go_simp
              refine (specMails_any l _ vd _ (HWA.out _ GX) (by omega)).mono ?_
              rintro e wM ⟨mv, rfl, RM⟩
              obtain ⟨ma, mc, rfl⟩ := RM.form
              go_wp2_with fail
              refine hK.out _ _ (hHeld.later RM.bel) (fun hS2 => ?_)
              clear hK K' hHeld
              have hHeld := hS2
              clear hS2
              try simp only [Act.put, List.setIfInBounds_toArray, List.set_cons_zero, List.set_cons_succ]
              have HV : Hid (∀ k, (Value.slice ma (mailsOf vd l).length mc).ownBlock = some k → (Value.slice ba hs.length bc).ownBlock ≠ some k) := fun k hk e => by
                have h1 := (RM.own.lt k hk).1
                have h2 := (SX.row.own.lt k e).2
                omega
              have HO2 : Hid (∀ (j : Nat) (y : BxH), hs[j]? = some y → ∀ k, y.mv.ownBlock = some k → (Value.slice ma (mailsOf vd l).length mc).ownBlock ≠ some k) := fun j y hy k hk e => by
                have h1 := (RM.own.lt k e).1
                have h2 := SX.lt hy hk
                omega
              replace SX := SX.later RM.bel
              replace BX := BX.later RM.bel
              have RM2 := RM.here.lower (Nat.le_trans (show wa.heap.size ≤ wN.heap.size from GX.size) (Nat.le_refl _))
              replace GX := grown_later GX RM.bel
              clear RM
              refine takeL (i := 24) (v := .agg #[.int .i64 vd, .string y.2.user, .string y.2.name, .int .i64 (nextOf vd l), .slice ma (mailsOf vd l).length mc]) rfl (by kernel_rfl) (by kernel_rfl) (by kernel_rfl) (fun _ _ _ h => h) (Or.inl ⟨by rfl, ?_⟩) (by assumption) ?_
              · intro x hSx; go_simp
              try simp only [Act.put, List.setIfInBounds_toArray, List.set_cons_zero, List.set_cons_succ]
              refine wpAnyH_ready (rs := [25]) (by kernel_rfl) (by simp) ?_
              refine readyOne rfl (fun K' hK => ?_)
              go_simp
              refine hK.out _ _ (hHeld.later (belNew wM (.cells #[.int .i64 vd, .string y.2.user, .string y.2.name, .int .i64 (nextOf vd l), .slice ma (mailsOf vd l).length mc] 78))) (fun hS2 => ?_)
              clear hK K' hHeld
              have hHeld := hS2
              clear hS2
              try simp only [Act.put, List.setIfInBounds_toArray, List.set_cons_zero, List.set_cons_succ]
              have L1 := RBuf.lit1 hdE wM ⟨vd, y.2.user, y.2.name, nextOf vd l, ma, (mailsOf vd l).length, mc⟩
              replace SX := SX.later (belNew wM (.cells #[.int .i64 vd, .string y.2.user, .string y.2.name, .int .i64 (nextOf vd l), .slice ma (mailsOf vd l).length mc] 78))
              replace BX := BX.later (belNew wM (.cells #[.int .i64 vd, .string y.2.user, .string y.2.name, .int .i64 (nextOf vd l), .slice ma (mailsOf vd l).length mc] 78))
              replace RM2 := RM2.here' (belNew wM (.cells #[.int .i64 vd, .string y.2.user, .string y.2.name, .int .i64 (nextOf vd l), .slice ma (mailsOf vd l).length mc] 78))
              replace GX := grown_later GX (belNew wM (.cells #[.int .i64 vd, .string y.2.user, .string y.2.name, .int .i64 (nextOf vd l), .slice ma (mailsOf vd l).length mc] 78))
              refine wpAnyH_ready (rs := [26]) (by kernel_rfl) (by simp) ?_
              refine readyOne rfl (fun K' hK => ?_)
              refine step_append_rows rfl _ _ hdE rfl wa.heap.size _ hs rfl SX.row _ _ [⟨vd, y.2.user, y.2.name, nextOf vd l, ma, (mailsOf vd l).length, mc⟩] rfl L1 (by show _ * 73 ≤ _; simp only [List.length_cons, List.length_nil]; omega) ?_
              intro v' w' r g at' hlt'
              obtain ⟨va, vc, hvf⟩ := r.form
              simp only [List.length_append, List.length_cons, List.length_nil, Nat.zero_add] at hvf
              subst hvf
              refine hK.out _ _ (hHeld.grown g) (fun hS2 => ?_)
              clear hK K' hHeld
              have hHeld := hS2
              clear hS2
              try simp only [Act.put, List.setIfInBounds_toArray, List.set_cons_zero, List.set_cons_succ]
              have PX := SX.push (b := boxK l vd) (x := ⟨vd, y.2.user, y.2.name, nextOf vd l, ma, (mailsOf vd l).length, mc⟩) (by rw [HBK.out]; exact ⟨rfl, rfl, rfl, rfl⟩) (by rw [HBK.out]; exact RM2) HV.out HO2.out r g at'
              replace BX := BX.but' g (fun k hk => by have := (hlt' k hk).1; omega)
              replace GX := grown_mine GX g (fun k hk => (hlt' k hk).1)
              clear SX RM2 L1 r g at' hlt'
              refine takeL (i := 27) (v := .pointer (some ⟨gs, 0, none⟩)) rfl (by kernel_rfl) (by kernel_rfl) (by kernel_rfl) (fun _ _ _ h => h) (Or.inl ⟨by rfl, ?_⟩) (by assumption) ?_
              · intro x hSx; go_simp
              try simp only [Act.put, List.setIfInBounds_toArray, List.set_cons_zero, List.set_cons_succ]
              refine wpAnyH_ready (rs := [28]) (by kernel_rfl) (by simp) ?_
              refine readyOne rfl (fun K' hK => ?_)
              have cL := BX.cell 0 _ rfl
              have cF := BX.loose 0
              go_simp
              clear cL cF
              refine hK.out _ _ (hHeld.put 0 _) (fun hS2 => ?_)
              clear hK K' hHeld
              have hHeld := hS2
              clear hS2
              try simp only [Act.put, List.setIfInBounds_toArray, List.set_cons_zero, List.set_cons_succ]
              refine wpAnyH_done (by kernel_rfl) ?_ _
              have FX := PX.other (g := gs) (by omega) 0 (.slice va (hs.length + 1) vc)
              have FB := BX.set 0 (.slice va (hs.length + 1) vc)
              have FG := GX.trans (stored_grown w' gs 0 (.slice va (hs.length + 1) vc))
              clear PX BX GX
              go_wp2
              exact ⟨⟨j + 1, _, _, by omega, by simp, by rw [HTK.out]; exact FX, FB, FG⟩, by first | omega | (simp [intOf]; omega)⟩
            · go_simp
              refine (specMails_any l _ vd _ (HWA.out _ GX) (by omega)).mono ?_
              rintro e wM ⟨mv, rfl, RM⟩
              obtain ⟨ma, mc, rfl⟩ := RM.form
              go_wp2_with fail
              refine hK.out _ _ (hHeld.later RM.bel) (fun hS2 => ?_)
              clear hK K' hHeld
              have hHeld := hS2
              clear hS2
              try simp only [Act.put, List.setIfInBounds_toArray, List.set_cons_zero, List.set_cons_succ]
              have HV : Hid (∀ k, (Value.slice ma (mailsOf vd l).length mc).ownBlock = some k → (Value.slice ba hs.length bc).ownBlock ≠ some k) := fun k hk e => by
                have h1 := (RM.own.lt k hk).1
                have h2 := (SX.row.own.lt k e).2
                omega
              have HO2 : Hid (∀ (j : Nat) (y : BxH), hs[j]? = some y → ∀ k, y.mv.ownBlock = some k → (Value.slice ma (mailsOf vd l).length mc).ownBlock ≠ some k) := fun j y hy k hk e => by
                have h1 := (RM.own.lt k e).1
                have h2 := SX.lt hy hk
                omega
              replace SX := SX.later RM.bel
              replace BX := BX.later RM.bel
              have RM2 := RM.here.lower (Nat.le_trans (show wa.heap.size ≤ wN.heap.size from GX.size) (Nat.le_refl _))
              replace GX := grown_later GX RM.bel
              clear RM
              refine takeL (i := 24) (v := .agg #[.int .i64 vd, .string y.2.user, .string y.2.name, .int .i64 (nextOf vd l), .slice ma (mailsOf vd l).length mc]) rfl (by kernel_rfl) (by kernel_rfl) (by kernel_rfl) (fun _ _ _ h => h) (Or.inl ⟨by rfl, ?_⟩) (by assumption) ?_
              · intro x hSx; go_simp
              try simp only [Act.put, List.setIfInBounds_toArray, List.set_cons_zero, List.set_cons_succ]
              refine wpAnyH_ready (rs := [1, 25]) (by kernel_rfl) (by simp) ?_
              refine readyTwo rfl rfl (fun K' hK => ?_) (fun K' hK => ?_)
              · have cL := BX.cell 0 _ rfl
                go_simp
                clear cL
                refine hK.out _ _ (hHeld) (fun hS2 => ?_)
                clear hK K' hHeld
                have hHeld := hS2
                clear hS2
                try simp only [Act.put, List.setIfInBounds_toArray, List.set_cons_zero, List.set_cons_succ]
                refine wpAnyH_ready (rs := [25]) (by kernel_rfl) (by simp) ?_
                refine readyOne rfl (fun K' hK => ?_)
                go_simp
                refine hK.out _ _ (hHeld.later (belNew wM (.cells #[.int .i64 vd, .string y.2.user, .string y.2.name, .int .i64 (nextOf vd l), .slice ma (mailsOf vd l).length mc] 78))) (fun hS2 => ?_)
                clear hK K' hHeld
                have hHeld := hS2
                clear hS2
                try simp only [Act.put, List.setIfInBounds_toArray, List.set_cons_zero, List.set_cons_succ]
                have L1 := RBuf.lit1 hdE wM ⟨vd, y.2.user, y.2.name, nextOf vd l, ma, (mailsOf vd l).length, mc⟩
                replace SX := SX.later (belNew wM (.cells #[.int .i64 vd, .string y.2.user, .string y.2.name, .int .i64 (nextOf vd l), .slice ma (mailsOf vd l).length mc] 78))
                replace BX := BX.later (belNew wM (.cells #[.int .i64 vd, .string y.2.user, .string y.2.name, .int .i64 (nextOf vd l), .slice ma (mailsOf vd l).length mc] 78))
                replace RM2 := RM2.here' (belNew wM (.cells #[.int .i64 vd, .string y.2.user, .string y.2.name, .int .i64 (nextOf vd l), .slice ma (mailsOf vd l).length mc] 78))
                replace GX := grown_later GX (belNew wM (.cells #[.int .i64 vd, .string y.2.user, .string y.2.name, .int .i64 (nextOf vd l), .slice ma (mailsOf vd l).length mc] 78))
                refine wpAnyH_ready (rs := [26]) (by kernel_rfl) (by simp) ?_
                refine readyOne rfl (fun K' hK => ?_)
                refine step_append_rows rfl _ _ hdE rfl wa.heap.size _ hs rfl SX.row _ _ [⟨vd, y.2.user, y.2.name, nextOf vd l, ma, (mailsOf vd l).length, mc⟩] rfl L1 (by show _ * 73 ≤ _; simp only [List.length_cons, List.length_nil]; omega) ?_
                intro v' w' r g at' hlt'
                obtain ⟨va, vc, hvf⟩ := r.form
                simp only [List.length_append, List.length_cons, List.length_nil, Nat.zero_add] at hvf
                subst hvf
                refine hK.out _ _ (hHeld.grown g) (fun hS2 => ?_)
                clear hK K' hHeld
                have hHeld := hS2
                clear hS2
                try simp only [Act.put, List.setIfInBounds_toArray, List.set_cons_zero, List.set_cons_succ]
                have PX := SX.push (b := boxK l vd) (x := ⟨vd, y.2.user, y.2.name, nextOf vd l, ma, (mailsOf vd l).length, mc⟩) (by rw [HBK.out]; exact ⟨rfl, rfl, rfl, rfl⟩) (by rw [HBK.out]; exact RM2) HV.out HO2.out r g at'
                replace BX := BX.but' g (fun k hk => by have := (hlt' k hk).1; omega)
                replace GX := grown_mine GX g (fun k hk => (hlt' k hk).1)
                clear SX RM2 L1 r g at' hlt'
                refine takeL (i := 27) (v := .pointer (some ⟨gs, 0, none⟩)) rfl (by kernel_rfl) (by kernel_rfl) (by kernel_rfl) (fun _ _ _ h => h) (Or.inl ⟨by rfl, ?_⟩) (by assumption) ?_
                · intro x hSx; go_simp
                try simp only [Act.put, List.setIfInBounds_toArray, List.set_cons_zero, List.set_cons_succ]
                refine wpAnyH_ready (rs := [28]) (by kernel_rfl) (by simp) ?_
                refine readyOne rfl (fun K' hK => ?_)
                have cL := BX.cell 0 _ rfl
                have cF := BX.loose 0
                go_simp
                clear cL cF
                refine hK.out _ _ (hHeld.put 0 _) (fun hS2 => ?_)
                clear hK K' hHeld
                have hHeld := hS2
                clear hS2
                try simp only [Act.put, List.setIfInBounds_toArray, List.set_cons_zero, List.set_cons_succ]
                refine wpAnyH_done (by kernel_rfl) ?_ _
                have FX := PX.other (g := gs) (by omega) 0 (.slice va (hs.length + 1) vc)
                have FB := BX.set 0 (.slice va (hs.length + 1) vc)
                have FG := GX.trans (stored_grown w' gs 0 (.slice va (hs.length + 1) vc))
                clear PX BX GX
                go_wp2
                exact ⟨⟨j + 1, _, _, by omega, by simp, by rw [HTK.out]; exact FX, FB, FG⟩, by first | omega | (simp [intOf]; omega)⟩
              · go_simp
                refine hK.out _ _ (hHeld.later (belNew wM (.cells #[.int .i64 vd, .string y.2.user, .string y.2.name, .int .i64 (nextOf vd l), .slice ma (mailsOf vd l).length mc] 78))) (fun hS2 => ?_)
                clear hK K' hHeld
                have hHeld := hS2
                clear hS2
                try simp only [Act.put, List.setIfInBounds_toArray, List.set_cons_zero, List.set_cons_succ]
                have L1 := RBuf.lit1 hdE wM ⟨vd, y.2.user, y.2.name, nextOf vd l, ma, (mailsOf vd l).length, mc⟩
                replace SX := SX.later (belNew wM (.cells #[.int .i64 vd, .string y.2.user, .string y.2.name, .int .i64 (nextOf vd l), .slice ma (mailsOf vd l).length mc] 78))
                replace BX := BX.later (belNew wM (.cells #[.int .i64 vd, .string y.2.user, .string y.2.name, .int .i64 (nextOf vd l), .slice ma (mailsOf vd l).length mc] 78))
                replace RM2 := RM2.here' (belNew wM (.cells #[.int .i64 vd, .string y.2.user, .string y.2.name, .int .i64 (nextOf vd l), .slice ma (mailsOf vd l).length mc] 78))
                replace GX := grown_later GX (belNew wM (.cells #[.int .i64 vd, .string y.2.user, .string y.2.name, .int .i64 (nextOf vd l), .slice ma (mailsOf vd l).length mc] 78))
                refine wpAnyH_ready (rs := [1]) (by kernel_rfl) (by simp) ?_
                refine readyOne rfl (fun K' hK => ?_)
                have cL := BX.cell 0 _ rfl
                go_simp
                clear cL
                refine hK.out _ _ (hHeld) (fun hS2 => ?_)
                clear hK K' hHeld
                have hHeld := hS2
                clear hS2
                try simp only [Act.put, List.setIfInBounds_toArray, List.set_cons_zero, List.set_cons_succ]
                refine wpAnyH_ready (rs := [26]) (by kernel_rfl) (by simp) ?_
                refine readyOne rfl (fun K' hK => ?_)
                refine step_append_rows rfl _ _ hdE rfl wa.heap.size _ hs rfl SX.row _ _ [⟨vd, y.2.user, y.2.name, nextOf vd l, ma, (mailsOf vd l).length, mc⟩] rfl L1 (by show _ * 73 ≤ _; simp only [List.length_cons, List.length_nil]; omega) ?_
                intro v' w' r g at' hlt'
                obtain ⟨va, vc, hvf⟩ := r.form
                simp only [List.length_append, List.length_cons, List.length_nil, Nat.zero_add] at hvf
                subst hvf
                refine hK.out _ _ (hHeld.grown g) (fun hS2 => ?_)
                clear hK K' hHeld
                have hHeld := hS2
                clear hS2
                try simp only [Act.put, List.setIfInBounds_toArray, List.set_cons_zero, List.set_cons_succ]
                have PX := SX.push (b := boxK l vd) (x := ⟨vd, y.2.user, y.2.name, nextOf vd l, ma, (mailsOf vd l).length, mc⟩) (by rw [HBK.out]; exact ⟨rfl, rfl, rfl, rfl⟩) (by rw [HBK.out]; exact RM2) HV.out HO2.out r g at'
                replace BX := BX.but' g (fun k hk => by have := (hlt' k hk).1; omega)
                replace GX := grown_mine GX g (fun k hk => (hlt' k hk).1)
                clear SX RM2 L1 r g at' hlt'
                refine takeL (i := 27) (v := .pointer (some ⟨gs, 0, none⟩)) rfl (by kernel_rfl) (by kernel_rfl) (by kernel_rfl) (fun _ _ _ h => h) (Or.inl ⟨by rfl, ?_⟩) (by assumption) ?_
                · intro x hSx; go_simp
                try simp only [Act.put, List.setIfInBounds_toArray, List.set_cons_zero, List.set_cons_succ]
                refine wpAnyH_ready (rs := [28]) (by kernel_rfl) (by simp) ?_
                refine readyOne rfl (fun K' hK => ?_)
                have cL := BX.cell 0 _ rfl
                have cF := BX.loose 0
                go_simp
                clear cL cF
                refine hK.out _ _ (hHeld.put 0 _) (fun hS2 => ?_)
                clear hK K' hHeld
                have hHeld := hS2
                clear hS2
                try simp only [Act.put, List.setIfInBounds_toArray, List.set_cons_zero, List.set_cons_succ]
                refine wpAnyH_done (by kernel_rfl) ?_ _
                have FX := PX.other (g := gs) (by omega) 0 (.slice va (hs.length + 1) vc)
                have FB := BX.set 0 (.slice va (hs.length + 1) vc)
                have FG := GX.trans (stored_grown w' gs 0 (.slice va (hs.length + 1) vc))
                clear PX BX GX
                go_wp2
                exact ⟨⟨j + 1, _, _, by omega, by simp, by rw [HTK.out]; exact FX, FB, FG⟩, by first | omega | (simp [intOf]; omega)⟩
        · have hge : ¬ (j : Int) < (vs.length : Int) := by omega
          have hjl : j = vs.length := by omega
          rw [hjl, List.take_length, ← HM.out] at SX
          have z0 := BX.cell 0 _ rfl
          have Y2 := y2.but GX (by omega)
          have d0 := Y2.cell 0 _ rfl
          have f0 := Y2.loose 0
          obtain ⟨ba, bc, rfl⟩ := SX.row.form
          have FX := (SX.other (g := w.heap.size) (by have := b3.size; have := hgs2; have := HWL.out; omega) 0 (.slice ba hs.length bc)).lower b3.size
          have FB : Below w.heap.size w (wr.setCell ⟨w.heap.size, 0, none⟩ (.slice ba hs.length bc)) := (b3.grown GX b3.size (fun k hk => by cases hk; omega)).setCell (p := ⟨w.heap.size, 0, none⟩) (Nat.le_refl _) _
          have HF := Lib.hid (And.intro FX FB)
          clear FX FB SX BX GX Y2
          go_wp2
          refine bodyPost_ret (v := .agg #[.slice ba hs.length bc]) (by simp [results, Tryz.results15, go_sem, d0]) rfl ?_
          first | exact ⟨_, hs, rfl, HF.out.1, HF.out.2⟩ | exact ⟨_, rfl, ⟨hs, HF.out.1⟩, HF.out.2⟩

end Go.Proofs.YtgcnebepklelpaaGreat

/- The marks of boxes, plainly. -/
namespace Go.Proofs.YtgcnebepklelpaaGreat

def markB (k : Nat) (b : Bx) : Bx := ⟨((k : Nat) : Int), mark (k + 1), mark (k + 2), ((k + 3 : Nat) : Int), marksL (k + 4) b.mails.length⟩
def kB (k : Nat) (b : Bx) : Nat := k + 4 + 3 * b.mails.length
def marksB : Nat → List Bx → List Bx
  | _, [] => []
  | k, b :: bs => markB k b :: marksB (kB k b) bs
def kE : Nat → List Bx → Nat
  | k, [] => k
  | k, b :: bs => kE (kB k b) bs
theorem marksB_length : ∀ (k : Nat) (bs : List Bx), (marksB k bs).length = bs.length
  | _, [] => rfl
  | k, b :: bs => by simp [marksB, marksB_length (kB k b) bs]
theorem kE_le : ∀ (k : Nat) (bs : List Bx), k ≤ kE k bs
  | _, [] => Nat.le_refl _
  | k, b :: bs => by have := kE_le (kB k b) bs; unfold kE; unfold kB at *; omega
theorem kE_take : ∀ (k : Nat) (bs : List Bx) (i : Nat) (b : Bx), bs[i]? = some b → kE k (bs.take (i + 1)) = kB (kE k (bs.take i)) b
  | _, [], i, b, h => by cases h
  | k, c :: bs, 0, b, h => by cases h; rfl
  | k, c :: bs, i + 1, b, h => by
    show kE (kB k c) (bs.take (i + 1)) = kB (kE (kB k c) (bs.take i)) b
    exact kE_take (kB k c) bs i b h
theorem kE_take_le (k : Nat) (bs : List Bx) : ∀ i, kE k (bs.take i) ≤ kE k bs := by
  induction bs generalizing k with
  | nil => intro i; simp [kE]
  | cons b bs ih =>
    intro i
    cases i with
    | zero => exact kE_le k (b :: bs)
    | succ i => exact ih (kB k b) i
theorem marksB_at : ∀ (k : Nat) (bs : List Bx) (i : Nat) (b : Bx), bs[i]? = some b → (marksB k bs)[i]? = some (markB (kE k (bs.take i)) b)
  | _, [], i, b, h => by cases h
  | k, c :: bs, 0, b, h => by cases h; rfl
  | k, c :: bs, i + 1, b, h => by
    show (marksB (kB k c) bs)[i]? = some (markB (kE (kB k c) (bs.take i)) b)
    exact marksB_at (kB k c) bs i b h
def putB (k : Nat) (bs : List Bx) (i : Nat) : List Bx := (marksB k bs).take i ++ bs.drop i
theorem putB_zero (k : Nat) (bs : List Bx) : putB k bs 0 = bs := by simp [putB]
theorem putB_all (k : Nat) (bs : List Bx) : putB k bs bs.length = marksB k bs := by
  unfold putB
  rw [List.take_of_length_le (by rw [marksB_length]; exact Nat.le_refl _), List.drop_length, List.append_nil]
theorem putB_length (k : Nat) (bs : List Bx) (i : Nat) (h : i ≤ bs.length) : (putB k bs i).length = bs.length := by
  unfold putB
  rw [List.length_append, List.length_take, List.length_drop, marksB_length]; omega
theorem putB_at (k : Nat) (bs : List Bx) (i : Nat) (b : Bx) (h : bs[i]? = some b) : (putB k bs i)[i]? = some b := by
  have hl : i < bs.length := (List.getElem?_eq_some_iff.1 h).1
  unfold putB
  rw [List.getElem?_append_right (by rw [List.length_take, marksB_length]; omega), List.length_take, marksB_length, Nat.min_eq_left (Nat.le_of_lt hl), Nat.sub_self, List.getElem?_drop, Nat.add_zero]
  exact h
theorem putB_set (k : Nat) (bs : List Bx) (i : Nat) (b : Bx) (h : bs[i]? = some b) : (putB k bs i).set i (markB (kE k (bs.take i)) b) = putB k bs (i + 1) := by
  have hl : i < bs.length := (List.getElem?_eq_some_iff.1 h).1
  unfold putB
  rw [List.set_append_right _ _ (by rw [List.length_take, marksB_length]; omega)]
  rw [List.length_take, marksB_length, Nat.min_eq_left (Nat.le_of_lt hl), Nat.sub_self, List.drop_eq_getElem_cons hl, List.set_cons_zero, List.take_add_one, marksB_at k bs i b h, List.append_assoc]
  rfl
end Go.Proofs.YtgcnebepklelpaaGreat
