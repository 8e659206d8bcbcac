/- What records tell: the model's choice of a record. -/
import Derived.Test.YtjfilicddnhniabEncI
import Derived.Lib.Hide
namespace Go.Proofs.Ytjfilicddnhniab
open Go.RowKit

theorem Box.set9 {w : World} {b : Nat} {u0 u1 u2 u3 u4 u5 u6 u7 u8 : Value} {t : TypeId} (h : Box w b #[u0, u1, u2, u3, u4, u5, u6, u7, u8] t) (v0 v1 v2 v3 v4 v5 v6 v7 v8 : Value) : Box ((Go.Proofs.Ytjfilicddnhniab.set8 w b v0 v1 v2 v3 v4 v5 v6 v7).setCell ⟨b, 8, none⟩ v8) b #[v0, v1, v2, v3, v4, v5, v6, v7, v8] t :=
  have a0 : Box (w.setCell ⟨b, 0, none⟩ v0) b #[v0, u1, u2, u3, u4, u5, u6, u7, u8] t := h.set 0 v0
  have a1 : Box ((w.setCell ⟨b, 0, none⟩ v0).setCell ⟨b, 1, none⟩ v1) b #[v0, v1, u2, u3, u4, u5, u6, u7, u8] t := a0.set 1 v1
  have a2 : Box (((w.setCell ⟨b, 0, none⟩ v0).setCell ⟨b, 1, none⟩ v1).setCell ⟨b, 2, none⟩ v2) b #[v0, v1, v2, u3, u4, u5, u6, u7, u8] t := a1.set 2 v2
  have a3 : Box ((((w.setCell ⟨b, 0, none⟩ v0).setCell ⟨b, 1, none⟩ v1).setCell ⟨b, 2, none⟩ v2).setCell ⟨b, 3, none⟩ v3) b #[v0, v1, v2, v3, u4, u5, u6, u7, u8] t := a2.set 3 v3
  have a4 : Box (((((w.setCell ⟨b, 0, none⟩ v0).setCell ⟨b, 1, none⟩ v1).setCell ⟨b, 2, none⟩ v2).setCell ⟨b, 3, none⟩ v3).setCell ⟨b, 4, none⟩ v4) b #[v0, v1, v2, v3, v4, u5, u6, u7, u8] t := a3.set 4 v4
  have a5 : Box ((((((w.setCell ⟨b, 0, none⟩ v0).setCell ⟨b, 1, none⟩ v1).setCell ⟨b, 2, none⟩ v2).setCell ⟨b, 3, none⟩ v3).setCell ⟨b, 4, none⟩ v4).setCell ⟨b, 5, none⟩ v5) b #[v0, v1, v2, v3, v4, v5, u6, u7, u8] t := a4.set 5 v5
  have a6 : Box (((((((w.setCell ⟨b, 0, none⟩ v0).setCell ⟨b, 1, none⟩ v1).setCell ⟨b, 2, none⟩ v2).setCell ⟨b, 3, none⟩ v3).setCell ⟨b, 4, none⟩ v4).setCell ⟨b, 5, none⟩ v5).setCell ⟨b, 6, none⟩ v6) b #[v0, v1, v2, v3, v4, v5, v6, u7, u8] t := a5.set 6 v6
  have a7 : Box ((((((((w.setCell ⟨b, 0, none⟩ v0).setCell ⟨b, 1, none⟩ v1).setCell ⟨b, 2, none⟩ v2).setCell ⟨b, 3, none⟩ v3).setCell ⟨b, 4, none⟩ v4).setCell ⟨b, 5, none⟩ v5).setCell ⟨b, 6, none⟩ v6).setCell ⟨b, 7, none⟩ v7) b #[v0, v1, v2, v3, v4, v5, v6, v7, u8] t := a6.set 7 v7
  have a8 : Box (((((((((w.setCell ⟨b, 0, none⟩ v0).setCell ⟨b, 1, none⟩ v1).setCell ⟨b, 2, none⟩ v2).setCell ⟨b, 3, none⟩ v3).setCell ⟨b, 4, none⟩ v4).setCell ⟨b, 5, none⟩ v5).setCell ⟨b, 6, none⟩ v6).setCell ⟨b, 7, none⟩ v7).setCell ⟨b, 8, none⟩ v8) b #[v0, v1, v2, v3, v4, v5, v6, v7, v8] t := a7.set 8 v8
  a8

theorem bestO_take {k : Itm → Int} {p : Itm → Bool} {l : List Itm} {i : Nat} {x : Itm} (h : l[i]? = some x) : bestO k p (l.take (i + 1)) = bestStep k p (bestO k p (l.take i)) x := by
  unfold bestO
  rw [List.take_add_one, h, List.foldl_append]
  rfl

/-- What the choice hands back. -/
def bestT (o : Option Itm) : Value := match o with
  | some x => .tuple #[itV x.1 x.2, .bool true]
  | none => .tuple #[itV 0 Rc.nil, .bool false]
/-- What stands in its variable. -/
def bestX (o : Option Itm) : Itm := o.getD (0, Rc.nil)
theorem bestT_eq (o : Option Itm) : bestT o = .tuple #[itV (bestX o).1 (bestX o).2, .bool o.isSome] := by cases o <;> rfl
def bestP (kind valid uid : Int) (x : Itm) : Bool := decide (x.2.kind = kind ∧ x.2.valid = valid ∧ x.2.uid = uid)
theorem bestStep_no {k : Itm → Int} {p : Itm → Bool} {o : Option Itm} {x : Itm} (h : p x = false) : bestStep k p o x = o := by
  unfold bestStep; rw [h]; rfl
theorem bestStep_yes {p : Itm → Bool} {o : Option Itm} {x : Itm} (h : p x = true) (h2 : o = none ∨ (bestX o).1 < x.1) : bestStep (fun _ => 0) p o x = some x := by
  unfold bestStep; rw [if_pos h]
  cases o with
  | none => rfl
  | some y =>
    have : y.1 < x.1 := by rcases h2 with h2 | h2; cases h2; exact h2
    exact if_pos (decide_eq_true (.inr ⟨rfl, this⟩))
theorem bestStep_old {p : Itm → Bool} {o : Option Itm} {x : Itm} (h : p x = true) (h1 : o.isSome = true) (h2 : ¬ (bestX o).1 < x.1) : bestStep (fun _ => 0) p o x = o := by
  unfold bestStep; rw [if_pos h]
  cases o with
  | none => cases h1
  | some y => exact if_neg (fun c => by have := of_decide_eq_true c; dsimp only at this; have h2 : ¬ y.1 < x.1 := h2; omega)

/-- The choice at work: its answer's variable g0, its own g1. -/
structure BsI (w : World) (g0 g1 : Nat) (x : Itm) (X : World) : Prop where
  res : Box X g0 #[.int .i64 0, .int .i64 0, .int .i64 0, .int .i64 0, .int .i64 0, .int .i64 0, .string ⟨#[]⟩, .string ⟨#[]⟩, .string ⟨#[]⟩] 79
  out : Box X g1 #[.int .i64 x.1, .int .i64 x.2.kind, .int .i64 x.2.valid, .int .i64 x.2.uid, .int .i64 x.2.next, .int .i64 x.2.flags, .string x.2.user, .string x.2.name, .string x.2.text] 79
  bel : Below w.heap.size w X
  l0 : w.heap.size ≤ g0
  l1 : w.heap.size ≤ g1
  n01 : g0 ≠ g1
theorem BsI.later {w X Y : World} {g0 g1 : Nat} {x : Itm} (h : BsI w g0 g1 x X) (hb : Below X.heap.size X Y) : BsI w g0 g1 x Y := ⟨h.res.later hb, h.out.later hb, h.bel.trans (hb.mono h.bel.size), h.l0, h.l1, h.n01⟩
theorem BsI.put {w X : World} {g0 g1 : Nat} {x : Itm} (h : BsI w g0 g1 x X) (y : Itm) : BsI w g0 g1 y ((set8 X g1 (.int .i64 y.1) (.int .i64 y.2.kind) (.int .i64 y.2.valid) (.int .i64 y.2.uid) (.int .i64 y.2.next) (.int .i64 y.2.flags) (.string y.2.user) (.string y.2.name)).setCell ⟨g1, 8, none⟩ (.string y.2.text)) :=
  ⟨h.res.but ((grown_set8 X g1 _ _ _ _ _ _ _ _).trans (stored_grown _ _ _ _)) h.n01, h.out.set9 _ _ _ _ _ _ _ _ _, below_set9 h.bel h.l1 _ _ _ _ _ _ _ _ _, h.l0, h.l1, h.n01⟩

set_option maxRecDepth 100000 in
set_option maxHeartbeats 2000000 in
theorem specBest_any (l : List Itm) (v : Value) (kind valid uid : Int) (w : World) (h : Rows' itE w v l) (hl : l.length ≤ 1099511627776) :
    Calls Try.prog 71 #[v, .int .i64 kind, .int .i64 valid, .int .i64 uid] w fun e w' => e = .returned (bestT (bestR kind valid uid l)) ∧ Below w.heap.size w w' := by
  rw [bestT_eq]
  obtain ⟨ad, cap, rfl, hrow⟩ : ∃ (ad : Option Addr) (cap : Nat), v = .slice ad l.length cap ∧ ∀ X, Below w.heap.size w X → ∀ i x, l[i]? = some x → ∃ g off, ad = some ⟨g, off, none⟩ ∧ X.cell? ⟨g, off + i * 9, none⟩ = some (.int .i64 x.1) ∧ X.cell? ⟨g, off + i * 9 + 1, none⟩ = some (.int .i64 x.2.kind) ∧ X.cell? ⟨g, off + i * 9 + 2, none⟩ = some (.int .i64 x.2.valid) ∧ X.cell? ⟨g, off + i * 9 + 3, none⟩ = some (.int .i64 x.2.uid) ∧ X.cell? ⟨g, off + i * 9 + 4, none⟩ = some (.int .i64 x.2.next) ∧ X.cell? ⟨g, off + i * 9 + 5, none⟩ = some (.int .i64 x.2.flags) ∧ X.cell? ⟨g, off + i * 9 + 6, none⟩ = some (.string x.2.user) ∧ X.cell? ⟨g, off + i * 9 + 7, none⟩ = some (.string x.2.name) ∧ X.cell? ⟨g, off + i * 9 + 8, none⟩ = some (.string x.2.text) := by
    rcases h.ways with ⟨rfl, a, c, rfl⟩ | ⟨hne, g, off, c, rfl, hc, hg, hcl⟩
    · exact ⟨a, c, rfl, fun X _ i x hi => by cases hi⟩
    · exact ⟨_, c, rfl, fun X hb i x hi => ⟨g, off, rfl, it_cells hcl hg hb i x hi⟩⟩
  have HR := Lib.hid hrow
  clear h hrow
  obtain ⟨p, hp⟩ : ∃ p, p = bestP kind valid uid := ⟨_, rfl⟩
  have hpx : ∀ x, p x = decide (x.2.kind = kind ∧ x.2.valid = valid ∧ x.2.uid = uid) := fun x => by rw [hp]; rfl
  have HPX := Lib.hid hpx
  have HB : Hid (bestR kind valid uid l = bestO (fun _ => 0) p (l.take l.length)) := by rw [hp, List.take_length]; rfl
  clear hp hpx
  have I0 : BsI w w.heap.size (w.heap.size + 1) (bestX (bestO (fun _ => 0) p (l.take 0))) ((w.alloc (.cells #[.int .i64 0, .int .i64 0, .int .i64 0, .int .i64 0, .int .i64 0, .int .i64 0, .string ⟨#[]⟩, .string ⟨#[]⟩, .string ⟨#[]⟩] 79)).alloc (.cells #[.int .i64 0, .int .i64 0, .int .i64 0, .int .i64 0, .int .i64 0, .int .i64 0, .string ⟨#[]⟩, .string ⟨#[]⟩, .string ⟨#[]⟩] 79)) := by
    have hb := (belNew w (.cells #[.int .i64 0, .int .i64 0, .int .i64 0, .int .i64 0, .int .i64 0, .int .i64 0, .string ⟨#[]⟩, .string ⟨#[]⟩, .string ⟨#[]⟩] 79)).trans ((belNew (w.alloc (.cells #[.int .i64 0, .int .i64 0, .int .i64 0, .int .i64 0, .int .i64 0, .int .i64 0, .string ⟨#[]⟩, .string ⟨#[]⟩, .string ⟨#[]⟩] 79)) (.cells #[.int .i64 0, .int .i64 0, .int .i64 0, .int .i64 0, .int .i64 0, .int .i64 0, .string ⟨#[]⟩, .string ⟨#[]⟩, .string ⟨#[]⟩] 79)).mono (by simp))
    have h2 := Box.new (w.alloc (.cells #[.int .i64 0, .int .i64 0, .int .i64 0, .int .i64 0, .int .i64 0, .int .i64 0, .string ⟨#[]⟩, .string ⟨#[]⟩, .string ⟨#[]⟩] 79)) #[.int .i64 0, .int .i64 0, .int .i64 0, .int .i64 0, .int .i64 0, .int .i64 0, .string ⟨#[]⟩, .string ⟨#[]⟩, .string ⟨#[]⟩] 79
    have e : (w.alloc (.cells #[.int .i64 0, .int .i64 0, .int .i64 0, .int .i64 0, .int .i64 0, .int .i64 0, .string ⟨#[]⟩, .string ⟨#[]⟩, .string ⟨#[]⟩] 79)).heap.size = w.heap.size + 1 := by simp
    rw [e] at h2
    exact ⟨(Box.new w _ _).later (belNew _ _), h2, hb, Nat.le_refl _, by omega, by omega⟩
  go_enter Try.func71, Try.ntmps71
  go_wp2
  generalize (w.alloc (.cells #[.int .i64 0, .int .i64 0, .int .i64 0, .int .i64 0, .int .i64 0, .int .i64 0, .string ⟨#[]⟩, .string ⟨#[]⟩, .string ⟨#[]⟩] 79)).alloc (.cells #[.int .i64 0, .int .i64 0, .int .i64 0, .int .i64 0, .int .i64 0, .int .i64 0, .string ⟨#[]⟩, .string ⟨#[]⟩, .string ⟨#[]⟩] 79) = W at I0 ⊢
  obtain ⟨g1, hg1⟩ : ∃ g1, w.heap.size + 1 = g1 := ⟨_, rfl⟩
  rw [hg1] at I0 ⊢
  clear hg1
  go_loopw [11, 12] (fun fv iv wr => ∃ i : Nat, i ≤ l.length ∧ iv = .int .i64 (i : Int) ∧ fv = .bool (bestO (fun _ => 0) p (l.take i)).isSome ∧ BsI w w.heap.size g1 (bestX (bestO (fun _ => 0) p (l.take i))) wr) (fun _ iv _ => l.length - (intOf iv).toNat)
  case atStart => exact ⟨0, by omega, rfl, rfl, I0⟩
  case round =>
    clear I0
    obtain ⟨i, hi, rfl, rfl, I⟩ := hrel
    by_cases hlt : i < l.length
    · have hgx : l[i]? = some l[i] := List.getElem?_eq_getElem hlt
      have hst := bestO_take (k := fun _ => 0) (p := p) hgx
      have hpx := HPX.out l[i]
      obtain ⟨ga, oa, rfl, a0, a1, a2, a3, a4, a5, a6, a7, a8⟩ := HR.out _ I.bel i _ hgx
      generalize l[i] = x at *
      obtain ⟨sq, K, V, U, N, FL, US, NM, TX⟩ := x
      simp only at a0 a1 a2 a3 a4 a5 a6 a7 a8 hpx
      generalize bestO (fun _ => 0) p (l.take i) = o at *
      have HST := Lib.hid hst
      have hi0 : (0 : Int) ≤ (i : Int) := by omega
      have hi1 : (i : Int) < (l.length : Int) := by omega
      clear hst hgx
      by_cases hk : K = kind
      · have hk := hk.symm
        subst hk
        by_cases hv : V = valid
        · have hv := hv.symm
          subst hv
          by_cases hd : U = uid
          · have hd := hd.symm
            subst hd
            have J := I.later (belNew wr (.cells #[.int .i64 sq, .int .i64 kind, .int .i64 valid, .int .i64 uid, .int .i64 N, .int .i64 FL, .string US, .string NM, .string TX] 79))
            obtain ⟨u0, u1, u2, u3, u4, u5, u6, u7, u8, v0, v1, v2, v3, v4, v5, v6, v7, v8⟩ := J.out.nine
            have HJ := Lib.hid J
            clear I J
            have hyes : p (sq, ⟨kind, valid, uid, N, FL, US, NM, TX⟩) = true := by rw [hpx]; exact decide_eq_true ⟨rfl, rfl, rfl⟩
            cases ho : o.isSome with
            | false =>
              have HE : Hid (bestO (fun _ => 0) p (l.take (i + 1)) = some (sq, ⟨kind, valid, uid, N, FL, US, NM, TX⟩)) := by rw [HST.out]; exact bestStep_yes hyes (.inl (by cases o; rfl; cases ho))
              clear hpx hyes
              go_wp2
              exact ⟨⟨i + 1, by omega, by simp, by rw [HE.out]; rfl, by rw [HE.out]; exact HJ.out.put (sq, ⟨kind, valid, uid, N, FL, US, NM, TX⟩)⟩, by first | omega | (simp [intOf]; omega) | (show _ - (intOf (Value.int .i64 ((i : Int) + 1))).toNat < _ - (intOf (Value.int .i64 (i : Int))).toNat; simp only [intOf]; omega)⟩
            | true =>
              by_cases hs : (bestX o).1 < sq
              · have HE : Hid (bestO (fun _ => 0) p (l.take (i + 1)) = some (sq, ⟨kind, valid, uid, N, FL, US, NM, TX⟩)) := by rw [HST.out]; exact bestStep_yes hyes (.inr hs)
                clear hpx hyes
                go_wp2
                exact ⟨⟨i + 1, by omega, by simp, by rw [HE.out]; rfl, by rw [HE.out]; exact HJ.out.put (sq, ⟨kind, valid, uid, N, FL, US, NM, TX⟩)⟩, by first | omega | (simp [intOf]; omega) | (show _ - (intOf (Value.int .i64 ((i : Int) + 1))).toNat < _ - (intOf (Value.int .i64 (i : Int))).toNat; simp only [intOf]; omega)⟩
              · have HE : Hid (bestO (fun _ => 0) p (l.take (i + 1)) = o) := by rw [HST.out]; exact bestStep_old hyes ho hs
                clear hpx hyes
                go_wp2
                exact ⟨⟨i + 1, by omega, by simp, by rw [HE.out, ho], by rw [HE.out]; exact HJ.out⟩, by first | omega | (simp [intOf]; omega) | (show _ - (intOf (Value.int .i64 ((i : Int) + 1))).toNat < _ - (intOf (Value.int .i64 (i : Int))).toNat; simp only [intOf]; omega)⟩
          · have J := I.later (belNew wr (.cells #[.int .i64 sq, .int .i64 kind, .int .i64 valid, .int .i64 U, .int .i64 N, .int .i64 FL, .string US, .string NM, .string TX] 79))
            obtain ⟨u0, u1, u2, u3, u4, u5, u6, u7, u8, v0, v1, v2, v3, v4, v5, v6, v7, v8⟩ := J.out.nine
            have HJ := Lib.hid J
            clear I J
            have hno : p (sq, ⟨kind, valid, U, N, FL, US, NM, TX⟩) = false := by rw [hpx]; exact decide_eq_false (fun c => hd c.2.2)
            have HE : Hid (bestO (fun _ => 0) p (l.take (i + 1)) = o) := by rw [HST.out]; exact bestStep_no hno
            clear hpx hno
            go_wp2
            exact ⟨⟨i + 1, by omega, by simp, by rw [HE.out], by rw [HE.out]; exact HJ.out⟩, by first | omega | (simp [intOf]; omega) | (show _ - (intOf (Value.int .i64 ((i : Int) + 1))).toNat < _ - (intOf (Value.int .i64 (i : Int))).toNat; simp only [intOf]; omega)⟩
        · have J := I.later (belNew wr (.cells #[.int .i64 sq, .int .i64 kind, .int .i64 V, .int .i64 U, .int .i64 N, .int .i64 FL, .string US, .string NM, .string TX] 79))
          obtain ⟨u0, u1, u2, u3, u4, u5, u6, u7, u8, v0, v1, v2, v3, v4, v5, v6, v7, v8⟩ := J.out.nine
          have HJ := Lib.hid J
          clear I J
          have hno : p (sq, ⟨kind, V, U, N, FL, US, NM, TX⟩) = false := by rw [hpx]; exact decide_eq_false (fun c => hv c.2.1)
          have HE : Hid (bestO (fun _ => 0) p (l.take (i + 1)) = o) := by rw [HST.out]; exact bestStep_no hno
          clear hpx hno
          go_wp2
          exact ⟨⟨i + 1, by omega, by simp, by rw [HE.out], by rw [HE.out]; exact HJ.out⟩, by first | omega | (simp [intOf]; omega) | (show _ - (intOf (Value.int .i64 ((i : Int) + 1))).toNat < _ - (intOf (Value.int .i64 (i : Int))).toNat; simp only [intOf]; omega)⟩
      · have J := I.later (belNew wr (.cells #[.int .i64 sq, .int .i64 K, .int .i64 V, .int .i64 U, .int .i64 N, .int .i64 FL, .string US, .string NM, .string TX] 79))
        obtain ⟨u0, u1, u2, u3, u4, u5, u6, u7, u8, v0, v1, v2, v3, v4, v5, v6, v7, v8⟩ := J.out.nine
        have HJ := Lib.hid J
        clear I J
        have hno : p (sq, ⟨K, V, U, N, FL, US, NM, TX⟩) = false := by rw [hpx]; exact decide_eq_false (fun c => hk c.1)
        have HE : Hid (bestO (fun _ => 0) p (l.take (i + 1)) = o) := by rw [HST.out]; exact bestStep_no hno
        clear hpx hno
        go_wp2
        exact ⟨⟨i + 1, by omega, by simp, by rw [HE.out], by rw [HE.out]; exact HJ.out⟩, by first | omega | (simp [intOf]; omega) | (show _ - (intOf (Value.int .i64 ((i : Int) + 1))).toNat < _ - (intOf (Value.int .i64 (i : Int))).toNat; simp only [intOf]; omega)⟩
    · have hie : i = l.length := by omega
      subst hie
      obtain ⟨u0, u1, u2, u3, u4, u5, u6, u7, u8, v0, v1, v2, v3, v4, v5, v6, v7, v8⟩ := I.out.nine
      obtain ⟨y0, y1, y2, y3, y4, y5, y6, y7, y8, f0, f1, f2, f3, f4, f5, f6, f7, f8⟩ := I.res.nine
      have BB := Lib.hid I.bel
      clear I
      generalize hoo : bestO (fun _ => 0) p (l.take l.length) = o at *
      have HO : Hid (bestR kind valid uid l = o) := HB.out
      clear hoo HB
      go_wp2
      refine bodyPost_ret (v := .tuple #[.agg #[.int .i64 (bestX o).1, .int .i64 (bestX o).2.kind, .int .i64 (bestX o).2.valid, .int .i64 (bestX o).2.uid, .int .i64 (bestX o).2.next, .int .i64 (bestX o).2.flags, .string (bestX o).2.user, .string (bestX o).2.name, .string (bestX o).2.text], .bool o.isSome]) (by simp [results, Try.results71, go_sem, y0, y1, y2, y3, y4, y5, y6, y7, y8]) rfl ?_
      exact ⟨by rw [HO.out]; rfl, below_set9 BB.out (Nat.le_refl _) _ _ _ _ _ _ _ _ _⟩

end Go.Proofs.Ytjfilicddnhniab
