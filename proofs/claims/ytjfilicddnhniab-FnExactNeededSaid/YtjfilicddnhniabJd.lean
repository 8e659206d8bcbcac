/- Texts of our own, joined. -/
import Derived.Test.YtjfilicddnhniabJc
import Derived.Lib.Hide
/- What records tell: the model's choice of a record. -/
namespace Go.Proofs.Ytjfilicddnhniab
open Go.RowKit

theorem Box.set9 {w : World} {b : Nat} {u0 u1 u2 u3 u4 u5 u6 u7 u8 : Value} {t : TypeId} (h : Box w b #[u0, u1, u2, u3, u4, u5, u6, u7, u8] t) (v0 v1 v2 v3 v4 v5 v6 v7 v8 : Value) : Box ((Go.Proofs.Ytjfilicddnhniab.set8 w b v0 v1 v2 v3 v4 v5 v6 v7).setCell ⟨b, 8, none⟩ v8) b #[v0, v1, v2, v3, v4, v5, v6, v7, v8] t :=
  have a0 : Box (w.setCell ⟨b, 0, none⟩ v0) b #[v0, u1, u2, u3, u4, u5, u6, u7, u8] t := h.set 0 v0
  have a1 : Box ((w.setCell ⟨b, 0, none⟩ v0).setCell ⟨b, 1, none⟩ v1) b #[v0, v1, u2, u3, u4, u5, u6, u7, u8] t := a0.set 1 v1
  have a2 : Box (((w.setCell ⟨b, 0, none⟩ v0).setCell ⟨b, 1, none⟩ v1).setCell ⟨b, 2, none⟩ v2) b #[v0, v1, v2, u3, u4, u5, u6, u7, u8] t := a1.set 2 v2
  have a3 : Box ((((w.setCell ⟨b, 0, none⟩ v0).setCell ⟨b, 1, none⟩ v1).setCell ⟨b, 2, none⟩ v2).setCell ⟨b, 3, none⟩ v3) b #[v0, v1, v2, v3, u4, u5, u6, u7, u8] t := a2.set 3 v3
  have a4 : Box (((((w.setCell ⟨b, 0, none⟩ v0).setCell ⟨b, 1, none⟩ v1).setCell ⟨b, 2, none⟩ v2).setCell ⟨b, 3, none⟩ v3).setCell ⟨b, 4, none⟩ v4) b #[v0, v1, v2, v3, v4, u5, u6, u7, u8] t := a3.set 4 v4
  have a5 : Box ((((((w.setCell ⟨b, 0, none⟩ v0).setCell ⟨b, 1, none⟩ v1).setCell ⟨b, 2, none⟩ v2).setCell ⟨b, 3, none⟩ v3).setCell ⟨b, 4, none⟩ v4).setCell ⟨b, 5, none⟩ v5) b #[v0, v1, v2, v3, v4, v5, u6, u7, u8] t := a4.set 5 v5
  have a6 : Box (((((((w.setCell ⟨b, 0, none⟩ v0).setCell ⟨b, 1, none⟩ v1).setCell ⟨b, 2, none⟩ v2).setCell ⟨b, 3, none⟩ v3).setCell ⟨b, 4, none⟩ v4).setCell ⟨b, 5, none⟩ v5).setCell ⟨b, 6, none⟩ v6) b #[v0, v1, v2, v3, v4, v5, v6, u7, u8] t := a5.set 6 v6
  have a7 : Box ((((((((w.setCell ⟨b, 0, none⟩ v0).setCell ⟨b, 1, none⟩ v1).setCell ⟨b, 2, none⟩ v2).setCell ⟨b, 3, none⟩ v3).setCell ⟨b, 4, none⟩ v4).setCell ⟨b, 5, none⟩ v5).setCell ⟨b, 6, none⟩ v6).setCell ⟨b, 7, none⟩ v7) b #[v0, v1, v2, v3, v4, v5, v6, v7, u8] t := a6.set 7 v7
  have a8 : Box (((((((((w.setCell ⟨b, 0, none⟩ v0).setCell ⟨b, 1, none⟩ v1).setCell ⟨b, 2, none⟩ v2).setCell ⟨b, 3, none⟩ v3).setCell ⟨b, 4, none⟩ v4).setCell ⟨b, 5, none⟩ v5).setCell ⟨b, 6, none⟩ v6).setCell ⟨b, 7, none⟩ v7).setCell ⟨b, 8, none⟩ v8) b #[v0, v1, v2, v3, v4, v5, v6, v7, v8] t := a7.set 8 v8
  a8

theorem bestO_take {k : Itm → Int} {p : Itm → Bool} {l : List Itm} {i : Nat} {x : Itm} (h : l[i]? = some x) : bestO k p (l.take (i + 1)) = bestStep k p (bestO k p (l.take i)) x := by
  unfold bestO
  rw [List.take_add_one, h, List.foldl_append]
  rfl

/-- What the choice hands back. -/
def bestT (o : Option Itm) : Value := match o with
  | some x => .tuple #[itV x.1 x.2, .bool true]
  | none => .tuple #[itV 0 Rc.nil, .bool false]
/-- What stands in its variable. -/
def bestX (o : Option Itm) : Itm := o.getD (0, Rc.nil)
theorem bestT_eq (o : Option Itm) : bestT o = .tuple #[itV (bestX o).1 (bestX o).2, .bool o.isSome] := by cases o <;> rfl
def bestP (kind valid uid : Int) (x : Itm) : Bool := decide (x.2.kind = kind ∧ x.2.valid = valid ∧ x.2.uid = uid)
theorem bestStep_no {k : Itm → Int} {p : Itm → Bool} {o : Option Itm} {x : Itm} (h : p x = false) : bestStep k p o x = o := by
  unfold bestStep; rw [h]; rfl
theorem bestStep_yes {p : Itm → Bool} {o : Option Itm} {x : Itm} (h : p x = true) (h2 : o = none ∨ (bestX o).1 < x.1) : bestStep (fun _ => 0) p o x = some x := by
  unfold bestStep; rw [if_pos h]
  cases o with
  | none => rfl
  | some y =>
    have : y.1 < x.1 := by rcases h2 with h2 | h2; cases h2; exact h2
    exact if_pos (decide_eq_true (.inr ⟨rfl, this⟩))
theorem bestStep_old {p : Itm → Bool} {o : Option Itm} {x : Itm} (h : p x = true) (h1 : o.isSome = true) (h2 : ¬ (bestX o).1 < x.1) : bestStep (fun _ => 0) p o x = o := by
  unfold bestStep; rw [if_pos h]
  cases o with
  | none => cases h1
  | some y => exact if_neg (fun c => by have := of_decide_eq_true c; dsimp only at this; have h2 : ¬ y.1 < x.1 := h2; omega)

/-- The choice at work: its answer's variable g0, its own g1. -/
structure BsI (w : World) (g0 g1 : Nat) (x : Itm) (X : World) : Prop where
  res : Box X g0 #[.int .i64 0, .int .i64 0, .int .i64 0, .int .i64 0, .int .i64 0, .int .i64 0, .string ⟨#[]⟩, .string ⟨#[]⟩, .string ⟨#[]⟩] 79
  out : Box X g1 #[.int .i64 x.1, .int .i64 x.2.kind, .int .i64 x.2.valid, .int .i64 x.2.uid, .int .i64 x.2.next, .int .i64 x.2.flags, .string x.2.user, .string x.2.name, .string x.2.text] 79
  bel : Below w.heap.size w X
  l0 : w.heap.size ≤ g0
  l1 : w.heap.size ≤ g1
  n01 : g0 ≠ g1
theorem BsI.later {w X Y : World} {g0 g1 : Nat} {x : Itm} (h : BsI w g0 g1 x X) (hb : Below X.heap.size X Y) : BsI w g0 g1 x Y := ⟨h.res.later hb, h.out.later hb, h.bel.trans (hb.mono h.bel.size), h.l0, h.l1, h.n01⟩
theorem BsI.put {w X : World} {g0 g1 : Nat} {x : Itm} (h : BsI w g0 g1 x X) (y : Itm) : BsI w g0 g1 y ((set8 X g1 (.int .i64 y.1) (.int .i64 y.2.kind) (.int .i64 y.2.valid) (.int .i64 y.2.uid) (.int .i64 y.2.next) (.int .i64 y.2.flags) (.string y.2.user) (.string y.2.name)).setCell ⟨g1, 8, none⟩ (.string y.2.text)) :=
  ⟨h.res.but ((grown_set8 X g1 _ _ _ _ _ _ _ _).trans (stored_grown _ _ _ _)) h.n01, h.out.set9 _ _ _ _ _ _ _ _ _, below_set9 h.bel h.l1 _ _ _ _ _ _ _ _ _, h.l0, h.l1, h.n01⟩

set_option maxRecDepth 100000 in
set_option maxHeartbeats 2000000 in
theorem specBest_any (l : List Itm) (v : Value) (kind valid uid : Int) (w : World) (h : Rows' itE w v l) (hl : l.length ≤ 1099511627776) :
    Calls Try.prog 71 #[v, .int .i64 kind, .int .i64 valid, .int .i64 uid] w fun e w' => e = .returned (bestT (bestR kind valid uid l)) ∧ Below w.heap.size w w' := by
  rw [bestT_eq]
  obtain ⟨ad, cap, rfl, hrow⟩ : ∃ (ad : Option Addr) (cap : Nat), v = .slice ad l.length cap ∧ ∀ X, Below w.heap.size w X → ∀ i x, l[i]? = some x → ∃ g off, ad = some ⟨g, off, none⟩ ∧ X.cell? ⟨g, off + i * 9, none⟩ = some (.int .i64 x.1) ∧ X.cell? ⟨g, off + i * 9 + 1, none⟩ = some (.int .i64 x.2.kind) ∧ X.cell? ⟨g, off + i * 9 + 2, none⟩ = some (.int .i64 x.2.valid) ∧ X.cell? ⟨g, off + i * 9 + 3, none⟩ = some (.int .i64 x.2.uid) ∧ X.cell? ⟨g, off + i * 9 + 4, none⟩ = some (.int .i64 x.2.next) ∧ X.cell? ⟨g, off + i * 9 + 5, none⟩ = some (.int .i64 x.2.flags) ∧ X.cell? ⟨g, off + i * 9 + 6, none⟩ = some (.string x.2.user) ∧ X.cell? ⟨g, off + i * 9 + 7, none⟩ = some (.string x.2.name) ∧ X.cell? ⟨g, off + i * 9 + 8, none⟩ = some (.string x.2.text) := by
    rcases h.ways with ⟨rfl, a, c, rfl⟩ | ⟨hne, g, off, c, rfl, hc, hg, hcl⟩
    · exact ⟨a, c, rfl, fun X _ i x hi => by cases hi⟩
    · exact ⟨_, c, rfl, fun X hb i x hi => ⟨g, off, rfl, it_cells hcl hg hb i x hi⟩⟩
  have HR := Lib.hid hrow
  clear h hrow
  obtain ⟨p, hp⟩ : ∃ p, p = bestP kind valid uid := ⟨_, rfl⟩
  have hpx : ∀ x, p x = decide (x.2.kind = kind ∧ x.2.valid = valid ∧ x.2.uid = uid) := fun x => by rw [hp]; rfl
  have HPX := Lib.hid hpx
  have HB : Hid (bestR kind valid uid l = bestO (fun _ => 0) p (l.take l.length)) := by rw [hp, List.take_length]; rfl
  clear hp hpx
  have I0 : BsI w w.heap.size (w.heap.size + 1) (bestX (bestO (fun _ => 0) p (l.take 0))) ((w.alloc (.cells #[.int .i64 0, .int .i64 0, .int .i64 0, .int .i64 0, .int .i64 0, .int .i64 0, .string ⟨#[]⟩, .string ⟨#[]⟩, .string ⟨#[]⟩] 79)).alloc (.cells #[.int .i64 0, .int .i64 0, .int .i64 0, .int .i64 0, .int .i64 0, .int .i64 0, .string ⟨#[]⟩, .string ⟨#[]⟩, .string ⟨#[]⟩] 79)) := by
    have hb := (belNew w (.cells #[.int .i64 0, .int .i64 0, .int .i64 0, .int .i64 0, .int .i64 0, .int .i64 0, .string ⟨#[]⟩, .string ⟨#[]⟩, .string ⟨#[]⟩] 79)).trans ((belNew (w.alloc (.cells #[.int .i64 0, .int .i64 0, .int .i64 0, .int .i64 0, .int .i64 0, .int .i64 0, .string ⟨#[]⟩, .string ⟨#[]⟩, .string ⟨#[]⟩] 79)) (.cells #[.int .i64 0, .int .i64 0, .int .i64 0, .int .i64 0, .int .i64 0, .int .i64 0, .string ⟨#[]⟩, .string ⟨#[]⟩, .string ⟨#[]⟩] 79)).mono (by simp))
    have h2 := Box.new (w.alloc (.cells #[.int .i64 0, .int .i64 0, .int .i64 0, .int .i64 0, .int .i64 0, .int .i64 0, .string ⟨#[]⟩, .string ⟨#[]⟩, .string ⟨#[]⟩] 79)) #[.int .i64 0, .int .i64 0, .int .i64 0, .int .i64 0, .int .i64 0, .int .i64 0, .string ⟨#[]⟩, .string ⟨#[]⟩, .string ⟨#[]⟩] 79
    have e : (w.alloc (.cells #[.int .i64 0, .int .i64 0, .int .i64 0, .int .i64 0, .int .i64 0, .int .i64 0, .string ⟨#[]⟩, .string ⟨#[]⟩, .string ⟨#[]⟩] 79)).heap.size = w.heap.size + 1 := by simp
    rw [e] at h2
    exact ⟨(Box.new w _ _).later (belNew _ _), h2, hb, Nat.le_refl _, by omega, by omega⟩
  go_enter Try.func71, Try.ntmps71
  go_wp2
  generalize (w.alloc (.cells #[.int .i64 0, .int .i64 0, .int .i64 0, .int .i64 0, .int .i64 0, .int .i64 0, .string ⟨#[]⟩, .string ⟨#[]⟩, .string ⟨#[]⟩] 79)).alloc (.cells #[.int .i64 0, .int .i64 0, .int .i64 0, .int .i64 0, .int .i64 0, .int .i64 0, .string ⟨#[]⟩, .string ⟨#[]⟩, .string ⟨#[]⟩] 79) = W at I0 ⊢
  obtain ⟨g1, hg1⟩ : ∃ g1, w.heap.size + 1 = g1 := ⟨_, rfl⟩
  rw [hg1] at I0 ⊢
  clear hg1
  go_loopw [11, 12] (fun fv iv wr => ∃ i : Nat, i ≤ l.length ∧ iv = .int .i64 (i : Int) ∧ fv = .bool (bestO (fun _ => 0) p (l.take i)).isSome ∧ BsI w w.heap.size g1 (bestX (bestO (fun _ => 0) p (l.take i))) wr) (fun _ iv _ => l.length - (intOf iv).toNat)
  case atStart => exact ⟨0, by omega, rfl, rfl, I0⟩
  case round =>
    clear I0
    obtain ⟨i, hi, rfl, rfl, I⟩ := hrel
    by_cases hlt : i < l.length
    · have hgx : l[i]? = some l[i] := List.getElem?_eq_getElem hlt
      have hst := bestO_take (k := fun _ => 0) (p := p) hgx
      have hpx := HPX.out l[i]
      obtain ⟨ga, oa, rfl, a0, a1, a2, a3, a4, a5, a6, a7, a8⟩ := HR.out _ I.bel i _ hgx
      generalize l[i] = x at *
      obtain ⟨sq, K, V, U, N, FL, US, NM, TX⟩ := x
      simp only at a0 a1 a2 a3 a4 a5 a6 a7 a8 hpx
      generalize bestO (fun _ => 0) p (l.take i) = o at *
      have HST := Lib.hid hst
      have hi0 : (0 : Int) ≤ (i : Int) := by omega
      have hi1 : (i : Int) < (l.length : Int) := by omega
      clear hst hgx
      by_cases hk : K = kind
      · have hk := hk.symm
        subst hk
        by_cases hv : V = valid
        · have hv := hv.symm
          subst hv
          by_cases hd : U = uid
          · have hd := hd.symm
            subst hd
            have J := I.later (belNew wr (.cells #[.int .i64 sq, .int .i64 kind, .int .i64 valid, .int .i64 uid, .int .i64 N, .int .i64 FL, .string US, .string NM, .string TX] 79))
            obtain ⟨u0, u1, u2, u3, u4, u5, u6, u7, u8, v0, v1, v2, v3, v4, v5, v6, v7, v8⟩ := J.out.nine
            have HJ := Lib.hid J
            clear I J
            have hyes : p (sq, ⟨kind, valid, uid, N, FL, US, NM, TX⟩) = true := by rw [hpx]; exact decide_eq_true ⟨rfl, rfl, rfl⟩
            cases ho : o.isSome with
            | false =>
              have HE : Hid (bestO (fun _ => 0) p (l.take (i + 1)) = some (sq, ⟨kind, valid, uid, N, FL, US, NM, TX⟩)) := by rw [HST.out]; exact bestStep_yes hyes (.inl (by cases o; rfl; cases ho))
              clear hpx hyes
              go_wp2
              exact ⟨⟨i + 1, by omega, by simp, by rw [HE.out]; rfl, by rw [HE.out]; exact HJ.out.put (sq, ⟨kind, valid, uid, N, FL, US, NM, TX⟩)⟩, by first | omega | (simp [intOf]; omega) | (show _ - (intOf (Value.int .i64 ((i : Int) + 1))).toNat < _ - (intOf (Value.int .i64 (i : Int))).toNat; simp only [intOf]; omega)⟩
            | true =>
              by_cases hs : (bestX o).1 < sq
              · have HE : Hid (bestO (fun _ => 0) p (l.take (i + 1)) = some (sq, ⟨kind, valid, uid, N, FL, US, NM, TX⟩)) := by rw [HST.out]; exact bestStep_yes hyes (.inr hs)
                clear hpx hyes
                go_wp2
                exact ⟨⟨i + 1, by omega, by simp, by rw [HE.out]; rfl, by rw [HE.out]; exact HJ.out.put (sq, ⟨kind, valid, uid, N, FL, US, NM, TX⟩)⟩, by first | omega | (simp [intOf]; omega) | (show _ - (intOf (Value.int .i64 ((i : Int) + 1))).toNat < _ - (intOf (Value.int .i64 (i : Int))).toNat; simp only [intOf]; omega)⟩
              · have HE : Hid (bestO (fun _ => 0) p (l.take (i + 1)) = o) := by rw [HST.out]; exact bestStep_old hyes ho hs
                clear hpx hyes
                go_wp2
                exact ⟨⟨i + 1, by omega, by simp, by rw [HE.out, ho], by rw [HE.out]; exact HJ.out⟩, by first | omega | (simp [intOf]; omega) | (show _ - (intOf (Value.int .i64 ((i : Int) + 1))).toNat < _ - (intOf (Value.int .i64 (i : Int))).toNat; simp only [intOf]; omega)⟩
          · have J := I.later (belNew wr (.cells #[.int .i64 sq, .int .i64 kind, .int .i64 valid, .int .i64 U, .int .i64 N, .int .i64 FL, .string US, .string NM, .string TX] 79))
            obtain ⟨u0, u1, u2, u3, u4, u5, u6, u7, u8, v0, v1, v2, v3, v4, v5, v6, v7, v8⟩ := J.out.nine
            have HJ := Lib.hid J
            clear I J
            have hno : p (sq, ⟨kind, valid, U, N, FL, US, NM, TX⟩) = false := by rw [hpx]; exact decide_eq_false (fun c => hd c.2.2)
            have HE : Hid (bestO (fun _ => 0) p (l.take (i + 1)) = o) := by rw [HST.out]; exact bestStep_no hno
            clear hpx hno
            go_wp2
            exact ⟨⟨i + 1, by omega, by simp, by rw [HE.out], by rw [HE.out]; exact HJ.out⟩, by first | omega | (simp [intOf]; omega) | (show _ - (intOf (Value.int .i64 ((i : Int) + 1))).toNat < _ - (intOf (Value.int .i64 (i : Int))).toNat; simp only [intOf]; omega)⟩
        · have J := I.later (belNew wr (.cells #[.int .i64 sq, .int .i64 kind, .int .i64 V, .int .i64 U, .int .i64 N, .int .i64 FL, .string US, .string NM, .string TX] 79))
          obtain ⟨u0, u1, u2, u3, u4, u5, u6, u7, u8, v0, v1, v2, v3, v4, v5, v6, v7, v8⟩ := J.out.nine
          have HJ := Lib.hid J
          clear I J
          have hno : p (sq, ⟨kind, V, U, N, FL, US, NM, TX⟩) = false := by rw [hpx]; exact decide_eq_false (fun c => hv c.2.1)
          have HE : Hid (bestO (fun _ => 0) p (l.take (i + 1)) = o) := by rw [HST.out]; exact bestStep_no hno
          clear hpx hno
          go_wp2
          exact ⟨⟨i + 1, by omega, by simp, by rw [HE.out], by rw [HE.out]; exact HJ.out⟩, by first | omega | (simp [intOf]; omega) | (show _ - (intOf (Value.int .i64 ((i : Int) + 1))).toNat < _ - (intOf (Value.int .i64 (i : Int))).toNat; simp only [intOf]; omega)⟩
      · have J := I.later (belNew wr (.cells #[.int .i64 sq, .int .i64 K, .int .i64 V, .int .i64 U, .int .i64 N, .int .i64 FL, .string US, .string NM, .string TX] 79))
        obtain ⟨u0, u1, u2, u3, u4, u5, u6, u7, u8, v0, v1, v2, v3, v4, v5, v6, v7, v8⟩ := J.out.nine
        have HJ := Lib.hid J
        clear I J
        have hno : p (sq, ⟨K, V, U, N, FL, US, NM, TX⟩) = false := by rw [hpx]; exact decide_eq_false (fun c => hk c.1)
        have HE : Hid (bestO (fun _ => 0) p (l.take (i + 1)) = o) := by rw [HST.out]; exact bestStep_no hno
        clear hpx hno
        go_wp2
        exact ⟨⟨i + 1, by omega, by simp, by rw [HE.out], by rw [HE.out]; exact HJ.out⟩, by first | omega | (simp [intOf]; omega) | (show _ - (intOf (Value.int .i64 ((i : Int) + 1))).toNat < _ - (intOf (Value.int .i64 (i : Int))).toNat; simp only [intOf]; omega)⟩
    · have hie : i = l.length := by omega
      subst hie
      obtain ⟨u0, u1, u2, u3, u4, u5, u6, u7, u8, v0, v1, v2, v3, v4, v5, v6, v7, v8⟩ := I.out.nine
      obtain ⟨y0, y1, y2, y3, y4, y5, y6, y7, y8, f0, f1, f2, f3, f4, f5, f6, f7, f8⟩ := I.res.nine
      have BB := Lib.hid I.bel
      clear I
      generalize hoo : bestO (fun _ => 0) p (l.take l.length) = o at *
      have HO : Hid (bestR kind valid uid l = o) := HB.out
      clear hoo HB
      go_wp2
      refine bodyPost_ret (v := .tuple #[.agg #[.int .i64 (bestX o).1, .int .i64 (bestX o).2.kind, .int .i64 (bestX o).2.valid, .int .i64 (bestX o).2.uid, .int .i64 (bestX o).2.next, .int .i64 (bestX o).2.flags, .string (bestX o).2.user, .string (bestX o).2.name, .string (bestX o).2.text], .bool o.isSome]) (by simp [results, Try.results71, go_sem, y0, y1, y2, y3, y4, y5, y6, y7, y8]) rfl ?_
      exact ⟨by rw [HO.out]; rfl, below_set9 BB.out (Nat.le_refl _) _ _ _ _ _ _ _ _ _⟩

end Go.Proofs.Ytjfilicddnhniab

/- Right items, plainly: as they are gone through. -/
namespace Go.Proofs.Ytjfilicddnhniab

theorem upOf_take {f : Itm → Option Int} {l : List Itm} {i : Nat} {x : Itm} (h : l[i]? = some x) : upOf f (l.take (i + 1)) = match f x with | some n => insI (upOf f (l.take i)) n | none => upOf f (l.take i) := by
  unfold upOf
  rw [List.take_add_one, h, List.foldl_append]
  rfl
theorem insI_len (l : List Int) (x : Int) : (insI l x).length ≤ l.length + 1 := by
  unfold insI
  rw [List.length_append, List.length_cons]
  have h : ∀ l : List Int, (l.filter (fun y => decide (y < x))).length + (l.filter (fun y => decide (x < y))).length ≤ l.length := by
    intro l
    induction l with
    | nil => simp
    | cons y l ih =>
      simp only [List.filter_cons, List.length_cons]
      by_cases h1 : y < x
      · have h2 : ¬ x < y := by omega
        simp [h1, h2]; omega
      · by_cases h2 : x < y
        · simp [h1, h2]; omega
        · simp [h1, h2]; omega
  have := h l
  omega
theorem upOf_len (f : Itm → Option Int) (l : List Itm) : ∀ i, (upOf f (l.take i)).length ≤ i
  | 0 => by simp [upOf]
  | i + 1 => by
    have ih := upOf_len f l i
    cases h : l[i]? with
    | none =>
      have h2 : l.take (i + 1) = l.take i := by rw [List.take_add_one, h]; simp
      rw [h2]; omega
    | some x =>
      rw [upOf_take h]
      split
      · have := insI_len (upOf f (l.take i)) ‹Int›; omega
      · omega

/-- An item that is right by itself. -/
def itOk (x : Itm) : Prop := (1 ≤ x.1 ∧ x.1 ≤ 1000000000) ∧ x.2.ok
/-- The first i are right, and no two of them part. -/
def ItG (l : List Itm) (i : Nat) : Prop := (∀ (j : Nat) (x : Itm), l[j]? = some x → j < i → itOk x) ∧ ∀ (j k : Nat) (x y : Itm), l[j]? = some x → l[k]? = some y → j < k → k < i → x.1 = y.1 → x = y
noncomputable instance decItemsOk (l : List Itm) : Decidable (itemsOk l) := Classical.propDecidable _

theorem ItG.zero (l : List Itm) : ItG l 0 := ⟨fun _ _ _ h => by omega, fun _ _ _ _ _ _ _ h => by omega⟩
theorem ItG.next {l : List Itm} {i : Nat} {x : Itm} (h : ItG l i) (hx : l[i]? = some x) (hok : itOk x) (hd : ∀ (j : Nat) (y : Itm), l[j]? = some y → j < i → y.1 = x.1 → y = x) : ItG l (i + 1) := by
  refine ⟨fun j y hy hj => ?_, fun j k y z hy hz hjk hk e => ?_⟩
  · by_cases e : j = i
    · subst e; rw [hx] at hy; cases hy; exact hok
    · exact h.1 j y hy (by omega)
  · by_cases e2 : k = i
    · subst e2; rw [hx] at hz; cases hz; exact hd j y hy hjk e
    · exact h.2 j k y z hy hz hjk (by omega) e
theorem ItG.done {l : List Itm} (h : ItG l l.length) : decide (itemsOk l) = decide (l.length ≤ 200) := by
  apply decide_eq_decide.2
  constructor
  · exact fun c => c.2.2
  · intro hl
    refine ⟨fun x hx => ?_, fun x hx y hy e => ?_, hl⟩
    · obtain ⟨j, hj, rfl⟩ := List.getElem_of_mem hx
      exact h.1 j _ (List.getElem?_eq_getElem hj) hj
    · obtain ⟨j, hj, rfl⟩ := List.getElem_of_mem hx
      obtain ⟨k, hk, rfl⟩ := List.getElem_of_mem hy
      rcases Nat.lt_trichotomy j k with c | c | c
      · exact h.2 j k _ _ (List.getElem?_eq_getElem hj) (List.getElem?_eq_getElem hk) c hk e
      · subst c; rfl
      · exact (h.2 k j _ _ (List.getElem?_eq_getElem hk) (List.getElem?_eq_getElem hj) c hj e.symm).symm
theorem items_bad {l : List Itm} {i : Nat} {x : Itm} (hx : l[i]? = some x) (h : ¬ itOk x) : decide (itemsOk l) = false :=
  decide_eq_false fun c => h (c.1 x (List.mem_of_getElem? hx))
theorem items_part {l : List Itm} {j i : Nat} {x y : Itm} (hx : l[j]? = some x) (hy : l[i]? = some y) (e : x.1 = y.1) (h : x ≠ y) : decide (itemsOk l) = false :=
  decide_eq_false fun c => h (c.2.1 x (List.mem_of_getElem? hx) y (List.mem_of_getElem? hy) e)

end Go.Proofs.Ytjfilicddnhniab

/- What records tell, gathered box by box, plainly. -/
namespace Go.Proofs.Ytjfilicddnhniab

/-- What the records of one box tell, as far as they came. -/
structure Tb where
  named : Itm
  next : Int
  adds : Int → Option Itm
  flags : Int → Option Itm
def Tb.nil : Tb := ⟨(0, Rc.nil), 0, fun _ => none, fun _ => none⟩

/-- The number of what is there, 0 without it. -/
def sqO (o : Option Itm) : Int := match o with | some y => y.1 | none => 0
/-- The latest one of a mail. -/
def keepL (f : Int → Option Itm) (x : Itm) : Int → Option Itm := if sqO (f x.2.uid) < x.1 then (fun u => if u = x.2.uid then some x else f u) else f
theorem keepL_lt {f : Int → Option Itm} {x : Itm} (h : sqO (f x.2.uid) < x.1) : keepL f x = fun u => if u = x.2.uid then some x else f u := if_pos h
theorem keepL_ge {f : Int → Option Itm} {x : Itm} (h : ¬ sqO (f x.2.uid) < x.1) : keepL f x = f := if_neg h
/-- One record more. -/
def takeT (t : Tb) (x : Itm) : Tb :=
  if x.2.kind = 1 then ⟨if aheadB (fun y => y.2.next) x t.named then x else t.named, max t.next x.2.next, t.adds, t.flags⟩
  else if x.2.kind = 3 then ⟨t.named, max t.next (x.2.uid + 1), keepL t.adds x, t.flags⟩
  else if x.2.kind = 4 then ⟨t.named, t.next, t.adds, keepL t.flags x⟩
  else if x.2.kind = 5 then ⟨t.named, max t.next (x.2.uid + 1), t.adds, t.flags⟩
  else t

def fmT (l : List Itm) (v : Int) : Tb := ⟨(tellO v l).getD (0, Rc.nil), mostOf 0 (nextK v) l, fun u => bestR 3 v u l, fun u => bestR 4 v u l⟩
open Classical in
noncomputable def toldT (l : List Itm) (v : Int) : Option Tb := if ∃ x ∈ l, x.2.valid = v then some (fmT l v) else none

theorem bestO_snoc (k : Itm → Int) (p : Itm → Bool) (l : List Itm) (x : Itm) : bestO k p (l ++ [x]) = bestStep k p (bestO k p l) x := by
  unfold bestO; rw [List.foldl_append]; rfl
theorem mostOf_snoc (b : Int) (f : Itm → Int) (l : List Itm) (x : Itm) : mostOf b f (l ++ [x]) = if mostOf b f l < f x then f x else mostOf b f l := by
  unfold mostOf; rw [List.foldl_append]; rfl
theorem mostOf_ge (b : Int) (f : Itm → Int) (l : List Itm) : b ≤ mostOf b f l := (mostFold f l b).1
theorem bestStep_out {k : Itm → Int} {p : Itm → Bool} {o : Option Itm} {x : Itm} (h : p x = false) : bestStep k p o x = o := by
  unfold bestStep; rw [h]; rfl
theorem bestStep_in {k : Itm → Int} {p : Itm → Bool} {x : Itm} (h : p x = true) : bestStep k p none x = some x := by
  unfold bestStep; rw [if_pos h]
theorem bestStep_more {k : Itm → Int} {p : Itm → Bool} {x y : Itm} (h : p x = true) : bestStep k p (some y) x = if aheadB k x y then some x else some y := by
  unfold bestStep; rw [if_pos h]

/-- Without a record of it nothing is told of a box. -/
theorem fmT_none {l : List Itm} {v : Int} (h : ¬ ∃ x ∈ l, x.2.valid = v) : fmT l v = Tb.nil := by
  have hb : ∀ (k : Itm → Int) (p : Itm → Bool), (∀ x, p x = true → x.2.valid = v) → bestO k p l = none := by
    intro k p hp
    have hI := bestO_I k p l
    cases e : bestO k p l with
    | none => rfl
    | some y =>
      rw [e] at hI
      exact absurd ⟨y, hI.1, hp y hI.2.1⟩ h
  have hm : mostOf 0 (nextK v) l = 0 := by
    have : ∀ (m : List Itm), (∀ x ∈ m, nextK v x = 0) → mostOf 0 (nextK v) m = 0 := by
      intro m
      unfold mostOf
      induction m with
      | nil => intro _; rfl
      | cons x m ih =>
        intro hx
        rw [List.foldl_cons, hx x (by simp)]
        exact ih (fun y hy => hx y (List.mem_cons_of_mem _ hy))
    refine this l (fun x hx => ?_)
    unfold nextK
    rw [if_neg (fun e => h ⟨x, hx, e⟩)]
  unfold fmT Tb.nil
  congr 1
  · unfold tellO
    rw [hb _ _ (fun x hx => (of_decide_eq_true hx).2)]; rfl
  · funext u
    exact hb _ _ (fun x hx => (of_decide_eq_true hx).2.1)
  · funext u
    exact hb _ _ (fun x hx => (of_decide_eq_true hx).2.1)
theorem toldT_getD (l : List Itm) (v : Int) : (toldT l v).getD Tb.nil = fmT l v := by
  unfold toldT
  by_cases h : ∃ x ∈ l, x.2.valid = v
  · rw [if_pos h]; rfl
  · rw [if_neg h, fmT_none h]; rfl
theorem toldT_some {l : List Itm} {v : Int} {t : Tb} (h : toldT l v = some t) : t = fmT l v := by
  unfold toldT at h
  split at h
  · cases h; rfl
  · cases h

theorem fmT_other {l : List Itm} {x : Itm} {v : Int} (hv : x.2.valid ≠ v) : fmT (l ++ [x]) v = fmT l v := by
  have h0 : nextK v x = 0 := by unfold nextK; rw [if_neg hv]
  unfold fmT
  congr 1
  · unfold tellO
    rw [bestO_snoc, bestStep_out (decide_eq_false (fun c => hv c.2))]
  · rw [mostOf_snoc, h0, if_neg (by have := mostOf_ge 0 (nextK v) l; omega)]
  · funext u; unfold bestR; rw [bestO_snoc, bestStep_out (decide_eq_false (fun c => hv c.2.1))]
  · funext u; unfold bestR; rw [bestO_snoc, bestStep_out (decide_eq_false (fun c => hv c.2.1))]

theorem best_keep {kind v : Int} {l : List Itm} {x : Itm} (hv : x.2.valid = v) (hk : x.2.kind = kind) (hs : 1 ≤ x.1) : (fun u => bestR kind v u (l ++ [x])) = keepL (fun u => bestR kind v u l) x := by
  funext u
  by_cases hu : x.2.uid = u
  · have hp : decide (x.2.kind = kind ∧ x.2.valid = v ∧ x.2.uid = u) = true := decide_eq_true ⟨hk, hv, hu⟩
    have e0 : bestR kind v u (l ++ [x]) = bestStep (fun _ => 0) (fun x' => decide (x'.2.kind = kind ∧ x'.2.valid = v ∧ x'.2.uid = u)) (bestR kind v u l) x := bestO_snoc _ _ _ _
    show bestR kind v u (l ++ [x]) = _
    rw [e0]
    cases e : bestR kind v u l with
    | none =>
      have h1 : sqO ((fun u => bestR kind v u l) x.2.uid) < x.1 := by
        show sqO (bestR kind v x.2.uid l) < x.1
        rw [hu, e]; show (0 : Int) < x.1; omega
      rw [bestStep_in hp, keepL_lt h1]
      simp [hu]
    | some y =>
      rw [bestStep_more hp]
      have h0 : sqO ((fun u => bestR kind v u l) x.2.uid) = y.1 := by
        show sqO (bestR kind v x.2.uid l) = y.1
        rw [hu, e]; rfl
      by_cases c : y.1 < x.1
      · rw [keepL_lt (by rw [h0]; exact c), if_pos (by unfold aheadB; exact decide_eq_true (.inr ⟨rfl, c⟩))]; simp [hu]
      · rw [keepL_ge (by rw [h0]; exact c), if_neg (fun h => by unfold aheadB at h; have := of_decide_eq_true h; dsimp only at this; omega)]; exact e.symm
  · have e : bestR kind v u (l ++ [x]) = bestR kind v u l := by
      show bestO _ _ _ = _
      rw [bestO_snoc, bestStep_out (decide_eq_false (fun c => hu c.2.2))]; rfl
    show bestR kind v u (l ++ [x]) = _
    rw [e]
    unfold keepL
    split
    · show _ = if u = x.2.uid then some x else bestR kind v u l
      rw [if_neg (fun c => hu c.symm)]
    · rfl
theorem best_skip {kind v : Int} {l : List Itm} {x : Itm} (hk : x.2.kind ≠ kind) : (fun u => bestR kind v u (l ++ [x])) = fun u => bestR kind v u l := by
  funext u
  show bestO _ _ _ = _
  rw [bestO_snoc, bestStep_out (decide_eq_false (fun c => hk c.1))]; rfl
theorem tell_skip {v : Int} {l : List Itm} {x : Itm} (hk : x.2.kind ≠ 1) : tellO v (l ++ [x]) = tellO v l := by
  unfold tellO
  rw [bestO_snoc, bestStep_out (decide_eq_false (fun c => hk c.1))]
theorem most_max {v : Int} {l : List Itm} {x : Itm} : mostOf 0 (nextK v) (l ++ [x]) = max (mostOf 0 (nextK v) l) (nextK v x) := by
  rw [mostOf_snoc]
  split <;> omega
/-- One record more, told. -/
theorem fmT_step {l : List Itm} {x : Itm} (hs : 1 ≤ x.1) (hok : x.2.ok) : fmT (l ++ [x]) x.2.valid = takeT (fmT l x.2.valid) x := by
  have hge := mostOf_ge 0 (nextK x.2.valid) l
  unfold takeT
  by_cases h1 : x.2.kind = 1
  · rw [if_pos h1]
    have hn : 1 ≤ x.2.next := by
      have h := hok.2.2.1
      rw [if_pos h1] at h
      exact h.2.2.1
    have hnk : nextK x.2.valid x = x.2.next := by unfold nextK; rw [if_pos rfl, if_pos h1]
    unfold fmT
    rw [most_max, hnk, best_skip (by omega), best_skip (by omega)]
    congr 1
    unfold tellO
    rw [bestO_snoc]
    cases e : bestO (fun y => y.2.next) (fun y => decide (y.2.kind = 1 ∧ y.2.valid = x.2.valid)) l with
    | none =>
      rw [bestStep_in (decide_eq_true ⟨h1, rfl⟩)]
      simp only [Option.getD]
      rw [if_pos (by unfold aheadB; exact decide_eq_true (.inl (by show (0 : Int) < x.2.next; omega)))]
    | some y =>
      rw [bestStep_more (decide_eq_true ⟨h1, rfl⟩)]
      by_cases c : aheadB (fun y => y.2.next) x y = true
      · rw [if_pos c]
        show x = if aheadB (fun y => y.2.next) x y = true then x else y
        rw [if_pos c]
      · rw [if_neg c]
        show y = if aheadB (fun y => y.2.next) x y = true then x else y
        rw [if_neg c]
  rw [if_neg h1]
  by_cases h3 : x.2.kind = 3
  · rw [if_pos h3]
    have hnk : nextK x.2.valid x = x.2.uid + 1 := by unfold nextK; rw [if_pos rfl, if_neg h1, if_pos (.inl h3)]
    unfold fmT
    rw [most_max, hnk, best_keep rfl h3 hs, best_skip (kind := 4) (by omega), tell_skip h1]
  rw [if_neg h3]
  by_cases h4 : x.2.kind = 4
  · rw [if_pos h4]
    have hnk : nextK x.2.valid x = 0 := by unfold nextK; rw [if_pos rfl, if_neg h1, if_neg (by omega)]
    unfold fmT
    rw [most_max, hnk, best_keep rfl h4 hs, best_skip (kind := 3) (by omega), tell_skip h1, Int.max_eq_left hge]
  rw [if_neg h4]
  by_cases h5 : x.2.kind = 5
  · rw [if_pos h5]
    have hnk : nextK x.2.valid x = x.2.uid + 1 := by unfold nextK; rw [if_pos rfl, if_neg h1, if_pos (.inr h5)]
    unfold fmT
    rw [most_max, hnk, best_skip (kind := 3) (by omega), best_skip (kind := 4) (by omega), tell_skip h1]
  rw [if_neg h5]
  have hnk : nextK x.2.valid x = 0 := by unfold nextK; rw [if_pos rfl, if_neg h1, if_neg (by omega)]
  unfold fmT
  rw [most_max, hnk, best_skip (kind := 3) (by omega), best_skip (kind := 4) (by omega), tell_skip h1, Int.max_eq_left hge]

theorem toldT_step {l : List Itm} {x : Itm} (hs : 1 ≤ x.1) (hok : x.2.ok) (v : Int) : toldT (l ++ [x]) v = if v = x.2.valid then some (takeT ((toldT l v).getD Tb.nil) x) else toldT l v := by
  by_cases c : v = x.2.valid
  · subst c
    rw [if_pos rfl, toldT_getD]
    unfold toldT
    rw [if_pos ⟨x, by simp, rfl⟩, fmT_step hs hok]
  · rw [if_neg c]
    have hi : (∃ y ∈ l ++ [x], y.2.valid = v) ↔ ∃ y ∈ l, y.2.valid = v := by
      constructor
      · rintro ⟨y, hy, e⟩
        rcases List.mem_append.1 hy with h | h
        · exact ⟨y, h, e⟩
        · simp at h; subst h; exact absurd e.symm c
      · rintro ⟨y, hy, e⟩; exact ⟨y, List.mem_append_left _ hy, e⟩
    unfold toldT
    rw [fmT_other (fun e => c e.symm)]
    by_cases d : ∃ y ∈ l, y.2.valid = v
    · rw [if_pos d, if_pos (hi.2 d)]
    · rw [if_neg d, if_neg (fun h => d (hi.1 h))]
theorem toldT_nil (v : Int) : toldT [] v = none := by unfold toldT; rw [if_neg (by simp)]

end Go.Proofs.Ytjfilicddnhniab

/- What is gone is taken away, plainly. -/
namespace Go.Proofs.Ytjfilicddnhniab
open Classical

def dropB (k : List Itm) (v : Int) : Prop := ∃ x ∈ k, x.2.kind = 2 ∧ x.2.valid = v
def goneB (k : List Itm) (v u : Int) : Prop := ∃ x ∈ k, x.2.kind = 5 ∧ x.2.valid = v ∧ x.2.uid = u
noncomputable def lessA (k : List Itm) (v : Int) (t : Tb) : Tb := ⟨t.named, t.next, fun u => if goneB k v u then none else t.adds u, t.flags⟩
noncomputable def delT (T : Int → Option Tb) (k : List Itm) (v : Int) : Option Tb := if dropB k v then none else (T v).map (lessA k v)
/-- A mail taken away. -/
def lessM (u : Int) (t : Tb) : Tb := ⟨t.named, t.next, fun q => if q = u then none else t.adds q, t.flags⟩

theorem dropB_snoc {k : List Itm} {x : Itm} {v : Int} : dropB (k ++ [x]) v ↔ dropB k v ∨ (x.2.kind = 2 ∧ x.2.valid = v) := by
  unfold dropB
  constructor
  · rintro ⟨y, hy, h⟩
    rcases List.mem_append.1 hy with h1 | h1
    · exact .inl ⟨y, h1, h⟩
    · simp at h1; subst h1; exact .inr h
  · rintro (⟨y, hy, h⟩ | h)
    · exact ⟨y, List.mem_append_left _ hy, h⟩
    · exact ⟨x, by simp, h⟩
theorem goneB_snoc {k : List Itm} {x : Itm} {v u : Int} : goneB (k ++ [x]) v u ↔ goneB k v u ∨ (x.2.kind = 5 ∧ x.2.valid = v ∧ x.2.uid = u) := by
  unfold goneB
  constructor
  · rintro ⟨y, hy, h⟩
    rcases List.mem_append.1 hy with h1 | h1
    · exact .inl ⟨y, h1, h⟩
    · simp at h1; subst h1; exact .inr h
  · rintro (⟨y, hy, h⟩ | h)
    · exact ⟨y, List.mem_append_left _ hy, h⟩
    · exact ⟨x, by simp, h⟩
theorem lessA_snoc {k : List Itm} {x : Itm} {v : Int} (h : ¬ (x.2.kind = 5 ∧ x.2.valid = v)) : lessA (k ++ [x]) v = lessA k v := by
  funext t
  unfold lessA
  congr 1
  funext u
  have e : goneB (k ++ [x]) v u ↔ goneB k v u := by
    rw [goneB_snoc]
    exact ⟨fun c => c.elim id (fun c => absurd ⟨c.1, c.2.1⟩ h), .inl⟩
  by_cases c : goneB k v u
  · rw [if_pos c, if_pos (e.2 c)]
  · rw [if_neg c, if_neg (fun d => c (e.1 d))]
theorem lessA_more {k : List Itm} {x : Itm} (h : x.2.kind = 5) (t : Tb) : lessA (k ++ [x]) x.2.valid t = lessM x.2.uid (lessA k x.2.valid t) := by
  unfold lessA lessM
  congr 1
  funext u
  have e := goneB_snoc (k := k) (x := x) (v := x.2.valid) (u := u)
  by_cases c : u = x.2.uid
  · rw [if_pos c, if_pos (e.2 (.inr ⟨h, rfl, c.symm⟩))]
  · rw [if_neg c]
    show _ = if goneB k x.2.valid u then none else t.adds u
    by_cases d : goneB k x.2.valid u
    · rw [if_pos d, if_pos (e.2 (.inl d))]
    · rw [if_neg d, if_neg (fun q => (e.1 q).elim d (fun q => c q.2.2.symm))]
theorem delT_nil (T : Int → Option Tb) (v : Int) : delT T [] v = T v := by
  have h1 : ¬ dropB [] v := by unfold dropB; simp
  have h2 : ∀ t, lessA [] v t = t := fun t => by
    unfold lessA
    have : (fun u => if goneB [] v u then none else t.adds u) = t.adds := by
      funext u
      rw [if_neg (by unfold goneB; simp)]
    rw [this]
  unfold delT
  rw [if_neg h1]
  cases T v with
  | none => rfl
  | some t => simp [h2]
theorem delT_drop {T : Int → Option Tb} {k : List Itm} {x : Itm} (h : x.2.kind = 2) (v : Int) : delT T (k ++ [x]) v = if v = x.2.valid then none else delT T k v := by
  unfold delT
  rw [lessA_snoc (by omega)]
  by_cases c : v = x.2.valid
  · rw [if_pos c, if_pos (dropB_snoc.2 (.inr ⟨h, c.symm⟩))]
  · rw [if_neg c]
    by_cases d : dropB k v
    · rw [if_pos d, if_pos (dropB_snoc.2 (.inl d))]
    · rw [if_neg d, if_neg (fun q => (dropB_snoc.1 q).elim d (fun q => c q.2.symm))]
theorem delT_gone {T : Int → Option Tb} {k : List Itm} {x : Itm} (h : x.2.kind = 5) (v : Int) : delT T (k ++ [x]) v = if v = x.2.valid then (delT T k v).map (lessM x.2.uid) else delT T k v := by
  have hd : dropB (k ++ [x]) v ↔ dropB k v := ⟨fun q => (dropB_snoc.1 q).elim id (fun q => by omega), fun q => dropB_snoc.2 (.inl q)⟩
  unfold delT
  by_cases c : v = x.2.valid
  · subst c
    rw [if_pos rfl]
    by_cases d : dropB k x.2.valid
    · rw [if_pos d, if_pos (hd.2 d)]; rfl
    · rw [if_neg d, if_neg (fun q => d (hd.1 q)), Option.map_map]
      congr 1
      funext t
      exact lessA_more h t
  · rw [if_neg c, lessA_snoc (fun q => c q.2.symm)]
    by_cases d : dropB k v
    · rw [if_pos d, if_pos (hd.2 d)]
    · rw [if_neg d, if_neg (fun q => d (hd.1 q))]
theorem delT_other {T : Int → Option Tb} {k : List Itm} {x : Itm} (h : x.2.kind ≠ 2) (h5 : x.2.kind ≠ 5) (v : Int) : delT T (k ++ [x]) v = delT T k v := by
  have hd : dropB (k ++ [x]) v ↔ dropB k v := ⟨fun q => (dropB_snoc.1 q).elim id (fun q => absurd q.1 h), fun q => dropB_snoc.2 (.inl q)⟩
  unfold delT
  rw [lessA_snoc (fun q => h5 q.1)]
  by_cases d : dropB k v
  · rw [if_pos d, if_pos (hd.2 d)]
  · rw [if_neg d, if_neg (fun q => d (hd.1 q))]
theorem delT_out {T : Int → Option Tb} {k : List Itm} {x : Itm} (h : delT T k x.2.valid = none) (v : Int) : delT T (k ++ [x]) v = delT T k v := by
  by_cases h2 : x.2.kind = 2
  · rw [delT_drop h2]
    by_cases c : v = x.2.valid
    · subst c; rw [if_pos rfl, h]
    · rw [if_neg c]
  by_cases h5 : x.2.kind = 5
  · rw [delT_gone h5]
    by_cases c : v = x.2.valid
    · subst c; rw [if_pos rfl, h]; rfl
    · rw [if_neg c]
  exact delT_other h2 h5 v

end Go.Proofs.Ytjfilicddnhniab

/- The boxes that are told are those that the records of each Valid tell, plainly. -/
namespace Go.Proofs.Ytjfilicddnhniab
open Classical in
theorem goneB_if (l : List Itm) (v u : Int) (t : Tb) : (lessA l v t).adds u = if goneB l v u then none else t.adds u := rfl

/-- A mail out of what is gathered. -/
def mlOf (t : Tb) (u : Int) (x : Itm) : Ml := ⟨u, match t.flags u with | some y => y.2.flags | none => x.2.flags, x.2.text⟩

/-- Two rising rows of the same things are one. -/
theorem rise_same {α : Type} (k : α → Int) : ∀ {l m : List α}, l.Pairwise (fun x y => k x < k y) → m.Pairwise (fun x y => k x < k y) → (∀ x, x ∈ l ↔ x ∈ m) → l = m
  | [], [], _, _, _ => rfl
  | [], y :: m, _, _, h => by have := (h y).2 (by simp); cases this
  | x :: l, [], _, _, h => by have := (h x).1 (by simp); cases this
  | x :: l, y :: m, hl, hm, h => by
    rw [List.pairwise_cons] at hl hm
    have e : x = y := by
      rcases List.mem_cons.1 ((h x).1 (by simp)) with e | hx
      · exact e
      · rcases List.mem_cons.1 ((h y).2 (by simp)) with e | hy
        · exact e.symm
        · have := hl.1 y hy; have := hm.1 x hx; omega
    subst e
    rw [rise_same k hl.2 hm.2 (fun z => ?_)]
    constructor
    · intro hz
      rcases List.mem_cons.1 ((h z).1 (List.mem_cons_of_mem _ hz)) with e | hz'
      · have := hl.1 z hz; rw [e] at this; omega
      · exact hz'
    · intro hz
      rcases List.mem_cons.1 ((h z).2 (List.mem_cons_of_mem _ hz)) with e | hz'
      · have := hm.1 z hz; rw [e] at this; omega
      · exact hz'

theorem tellO_none {v : Int} {l : List Itm} (h : tellO v l = none) (x : Itm) (hx : x ∈ l) : ¬ (x.2.kind = 1 ∧ x.2.valid = v) := by
  have := bestO_I (fun x => x.2.next) (fun x => decide (x.2.kind = 1 ∧ x.2.valid = v)) l
  unfold tellO at h
  rw [h] at this
  exact of_decide_eq_false (this x hx)
theorem tellO_some {v : Int} {l : List Itm} {y : Itm} (h : tellO v l = some y) : y ∈ l ∧ y.2.kind = 1 ∧ y.2.valid = v := by
  have := bestO_I (fun x => x.2.next) (fun x => decide (x.2.kind = 1 ∧ x.2.valid = v)) l
  unfold tellO at h
  rw [h] at this
  exact ⟨this.1, of_decide_eq_true this.2.1⟩

/-- What is gathered of the box v, and not dropped. -/
noncomputable def finT (l : List Itm) (v : Int) : Option Tb := delT (toldT l) l v
theorem finT_some {l : List Itm} {v : Int} {t : Tb} (h : finT l v = some t) : t = lessA l v (fmT l v) ∧ ¬ dropB l v := by
  unfold finT delT at h
  split at h
  · cases h
  · rename_i c
    cases e : toldT l v with
    | none => rw [e] at h; cases h
    | some t0 =>
      rw [e] at h
      cases h
      exact ⟨by rw [toldT_some e], c⟩
theorem drop_best {l : List Itm} (hok : ∀ x ∈ l, x.2.ok) (v : Int) : ¬ dropB l v ↔ bestR 2 v 0 l = none := by
  constructor
  · intro h
    cases e : bestR 2 v 0 l with
    | none => rfl
    | some y =>
      obtain ⟨h1, h2, _⟩ := bestR_some e
      exact absurd ⟨y, h1, h2.1, h2.2.1⟩ h
  · rintro h ⟨x, hx, h1, h2⟩
    have hu : x.2.uid = 0 := by
      have := (hok x hx).2.2.2.1
      rw [if_neg (by omega)] at this
      exact this
    exact bestR_none h x hx ⟨h1, h2, hu⟩
/-- A box is told just where one is named, and not dropped. -/
theorem fin_valid {l : List Itm} (hok : ∀ x ∈ l, itOk x) (v : Int) : (∃ t, finT l v = some t ∧ 0 < t.named.1) ↔ v ∈ upOf (validK l) l := by
  have hok' : ∀ x ∈ l, x.2.ok := fun x hx => (hok x hx).2
  rw [mem_valids]
  constructor
  · rintro ⟨t, h1, h2⟩
    obtain ⟨rfl, hd⟩ := finT_some h1
    refine ⟨?_, (drop_best hok' v).1 hd⟩
    cases e : tellO v l with
    | none =>
      have : (lessA l v (fmT l v)).named.1 = 0 := by unfold lessA fmT; simp [e]
      omega
    | some y =>
      obtain ⟨q1, q2, q3⟩ := tellO_some e
      exact ⟨y, q1, q2, q3⟩
  · rintro ⟨⟨x, hx, h1, h2⟩, h3⟩
    have hd := (drop_best hok' v).2 h3
    have ht : toldT l v = some (fmT l v) := by unfold toldT; rw [if_pos ⟨x, hx, h2⟩]
    refine ⟨lessA l v (fmT l v), by unfold finT delT; rw [if_neg hd, ht]; rfl, ?_⟩
    cases e : tellO v l with
    | none => exact absurd ⟨h1, h2⟩ (tellO_none e x hx)
    | some y =>
      have : (lessA l v (fmT l v)).named = y := by unfold lessA fmT; simp [e]
      rw [this]
      have := (hok y (tellO_some e).1).1
      omega
open Classical in
theorem mails_fin {l : List Itm} (v : Int) {t : Tb} (h : t = lessA l v (fmT l v)) {ms : List Ml} (h1 : ∀ m, m ∈ ms ↔ ∃ x, t.adds m.uid = some x ∧ m = mlOf t m.uid x) (h2 : ms.Pairwise (fun x y => x.uid < y.uid)) : ms = mailsOf v l := by
  refine rise_same (fun m => m.uid) h2 (mails_up v l) (fun m => ?_)
  rw [h1 m]
  have hm : m ∈ mailsOf v l ↔ m.uid ∈ upOf (uidK v l) l ∧ m = mailK v l m.uid := by
    unfold mailsOf
    rw [List.mem_map]
    constructor
    · rintro ⟨u, hu, rfl⟩; exact ⟨hu, rfl⟩
    · rintro ⟨hu, e⟩; exact ⟨m.uid, hu, e.symm⟩
  rw [hm, mem_uids]
  have hadds : ∀ u, t.adds u = if goneB l v u then none else bestR 3 v u l := fun u => by rw [h]; rfl
  have hflags : ∀ u, t.flags u = bestR 4 v u l := fun u => by rw [h]; rfl
  have hgone : ∀ u, goneB l v u ↔ ¬ bestR 5 v u l = none := fun u => by
    constructor
    · rintro ⟨x, hx, q⟩ e; exact bestR_none e x hx q
    · intro e
      cases e2 : bestR 5 v u l with
      | none => exact absurd e2 e
      | some y => obtain ⟨q1, q2, _⟩ := bestR_some e2; exact ⟨y, q1, q2⟩
  have hml : ∀ u x, bestR 3 v u l = some x → mlOf t u x = mailK v l u := fun u x e => by
    unfold mlOf mailK
    rw [hflags, e]
    cases bestR 4 v u l <;> rfl
  constructor
  · rintro ⟨x, q1, q2⟩
    rw [hadds] at q1
    split at q1
    · cases q1
    · rename_i c
      have hb5 : bestR 5 v m.uid l = none := Classical.byContradiction (fun d => c ((hgone _).2 d))
      obtain ⟨y1, y2, _⟩ := bestR_some q1
      exact ⟨⟨⟨x, y1, y2⟩, hb5⟩, q2.trans (hml _ _ q1)⟩
  · rintro ⟨⟨⟨x, q1, q2⟩, q3⟩, q4⟩
    obtain ⟨y, hy⟩ := bestR_there q1 q2
    exact ⟨y, by rw [hadds, if_neg (fun c => (hgone _).1 c q3)]; exact hy, q4.trans (hml _ _ hy).symm⟩
theorem most_next {l : List Itm} {v : Int} {x : Itm} (hx : x ∈ l) (h : 1 ≤ nextK v x) : mostOf 0 (nextK v) l = nextOf v l := by
  have a := mostFold (nextK v) l 0
  have b := mostFold (nextK v) l 1
  have a1 := a.2.1 x hx
  have b1 := b.2.1 x hx
  unfold nextOf mostOf
  rcases a.2.2 with e | ⟨y, hy, e⟩
  · omega
  · have b2 := b.2.1 y hy
    rcases b.2.2 with e' | ⟨z, hz, e'⟩
    · omega
    · have a2 := a.2.1 z hz
      omega
/-- The box that is told of it. -/
theorem box_fin {l : List Itm} (hok : ∀ x ∈ l, itOk x) {v : Int} {t : Tb} (h : finT l v = some t) (hs : 0 < t.named.1) {ms : List Ml} (h1 : ∀ m, m ∈ ms ↔ ∃ x, t.adds m.uid = some x ∧ m = mlOf t m.uid x) (h2 : ms.Pairwise (fun x y => x.uid < y.uid)) :
    (⟨t.named.2.valid, t.named.2.user, t.named.2.name, t.next, ms⟩ : Bx) = boxK l v := by
  obtain ⟨ht, hd⟩ := finT_some h
  have hms := mails_fin v ht h1 h2
  cases e : tellO v l with
  | none =>
    have : t.named.1 = 0 := by rw [ht]; unfold lessA fmT; simp [e]
    omega
  | some y =>
    have hn : t.named = y := by rw [ht]; unfold lessA fmT; simp [e]
    obtain ⟨y1, y2, y3⟩ := tellO_some e
    have hnx : 1 ≤ nextK v y := by
      unfold nextK
      rw [if_pos y3, if_pos y2]
      have := (hok y y1).2.2.2.1
      rw [if_pos y2] at this
      exact this.2.2.1
    have hnext : t.next = nextOf v l := by rw [ht]; exact most_next y1 hnx
    unfold boxK
    rw [e, hn, hnext, hms, y3]
    rfl

end Go.Proofs.Ytjfilicddnhniab

/- What is needed, plainly: by the model's words, and by who tells each subject. -/
namespace Go.Proofs.Ytjfilicddnhniab

def hasO (l : List Itm) (k v u : Int) : Bool := (bestR k v u l).isSome
def thereO (l : List Itm) (v : Int) : Bool := hasO l 1 v 0 && !hasO l 2 v 0
def bigB (a b : Itm) : Bool := aheadB (fun x => x.2.next) a b
def anyBig (l : List Itm) (x : Itm) : Bool := l.any (fun y => decide (y.2.kind = 1 ∧ y.2.valid = x.2.valid) && bigB y x)
def anyOther (l : List Itm) (x : Itm) : Bool := l.any (fun y => decide (y.2.kind ≠ 2 ∧ y.2.valid = x.2.valid))
def seqB (o : Option Itm) (x : Itm) : Bool := decide ((bestX o).1 = x.1)
def needO (l : List Itm) (x : Itm) : Bool :=
  if x.2.kind = 1 then !anyBig l x && thereO l x.2.valid
  else if x.2.kind = 2 then anyOther l x && seqB (bestR 2 x.2.valid 0 l) x
  else if x.2.kind = 5 then (thereO l x.2.valid && hasO l 3 x.2.valid x.2.uid) && seqB (bestR 5 x.2.valid x.2.uid l) x
  else ((thereO l x.2.valid && hasO l 3 x.2.valid x.2.uid) && !hasO l 5 x.2.valid x.2.uid) && seqB (bestR x.2.kind x.2.valid x.2.uid l) x
def firstB (l : List Itm) (k : Nat) (x : Itm) : Bool := !(l.take k).any (fun y => decide (y.1 = x.1))
def needB (l : List Itm) (k : Nat) (x : Itm) : Bool := firstB l k x && needO l x
/-- Of each of the first i. -/
def needP (l : List Itm) (ok : Bool) : Nat → List Bool
  | 0 => []
  | i + 1 => needP l ok i ++ ((l[i]?).toList.map (fun x => ok && needB l i x))
theorem needP_step {l : List Itm} {ok : Bool} {i : Nat} {x : Itm} (h : l[i]? = some x) : needP l ok (i + 1) = needP l ok i ++ [ok && needB l i x] := by
  show _ ++ _ = _
  rw [h]; rfl
theorem needP_len (l : List Itm) (ok : Bool) : ∀ i, i ≤ l.length → (needP l ok i).length = i
  | 0, _ => rfl
  | i + 1, h => by
    have h1 := needP_len l ok i (by omega)
    rw [needP_step (List.getElem?_eq_getElem (by omega)), List.length_append, h1]
    rfl

/-- The subject of a record. -/
def sjOf (x : Itm) : Int × Int × Int := (x.2.kind, x.2.valid, x.2.uid)
/-- Whether an item comes ahead of the one at a place, if there is one. -/
def telA (l : List Itm) (o : Option Nat) (x : Itm) : Bool := match o with
  | none => true
  | some j => match l[j]? with
    | some y => bigB x y
    | none => true
/-- The place of the one that tells a subject, of the first i. -/
def telP (l : List Itm) : Nat → (Int × Int × Int) → Option Nat
  | 0 => fun _ => none
  | i + 1 => match l[i]? with
    | none => telP l i
    | some x => if telA l (telP l i (sjOf x)) x = true then (fun s => if s = sjOf x then some i else telP l i s) else telP l i
theorem telP_put {l : List Itm} {i : Nat} {x : Itm} (h : l[i]? = some x) (ha : telA l (telP l i (sjOf x)) x = true) : telP l (i + 1) = fun s => if s = sjOf x then some i else telP l i s := by
  show (match l[i]? with | none => telP l i | some x => if telA l (telP l i (sjOf x)) x = true then (fun s => if s = sjOf x then some i else telP l i s) else telP l i) = _
  rw [h]
  exact if_pos ha
theorem telP_keep {l : List Itm} {i : Nat} {x : Itm} (h : l[i]? = some x) (ha : ¬ telA l (telP l i (sjOf x)) x = true) : telP l (i + 1) = telP l i := by
  show (match l[i]? with | none => telP l i | some x => if telA l (telP l i (sjOf x)) x = true then (fun s => if s = sjOf x then some i else telP l i s) else telP l i) = _
  rw [h]
  exact if_neg ha

/-- What is known of the place that tells a subject. -/
def TelI (l : List Itm) (i : Nat) : Prop := ∀ s, (telP l i s = none ∧ ∀ (j : Nat) (y : Itm), j < i → l[j]? = some y → sjOf y ≠ s) ∨
  ∃ (j : Nat) (x : Itm), telP l i s = some j ∧ j < i ∧ l[j]? = some x ∧ sjOf x = s ∧ (∀ (q : Nat) (y : Itm), q < i → l[q]? = some y → sjOf y = s → bigB y x = false) ∧ ∀ (q : Nat) (y : Itm), q < j → l[q]? = some y → sjOf y = s → bigB x y = true
theorem bigB_trans {a b c : Itm} (h1 : bigB a b = true) (h2 : bigB b c = true) : bigB a c = true := by
  unfold bigB aheadB at *
  simp only [decide_eq_true_eq] at *
  omega
theorem bigB_self (a : Itm) : bigB a a = false := by
  unfold bigB aheadB
  simp only [decide_eq_false_iff_not]
  omega
theorem bigB_not {a b : Itm} (h1 : bigB a b = true) : bigB b a = false := by
  unfold bigB aheadB at *
  simp only [decide_eq_true_eq, decide_eq_false_iff_not] at *
  omega
/-- Neither is ahead of the other: then another that is ahead of one is ahead of both. -/
theorem bigB_like {a b c : Itm} (h1 : bigB a b = true) (h2 : bigB c b = false) : bigB a c = true := by
  unfold bigB aheadB at *
  simp only [decide_eq_true_eq, decide_eq_false_iff_not] at *
  omega
theorem telI : ∀ (l : List Itm) (i : Nat), i ≤ l.length → TelI l i
  | l, 0, _ => fun s => .inl ⟨rfl, fun j y h => by omega⟩
  | l, i + 1, h => by
    have ih := telI l i (by omega)
    obtain ⟨x, hx⟩ : ∃ x, l[i]? = some x := ⟨_, List.getElem?_eq_getElem (by omega)⟩
    intro s
    by_cases ha : telA l (telP l i (sjOf x)) x = true
    · rw [telP_put hx ha]
      by_cases hs : s = sjOf x
      · refine .inr ⟨i, x, if_pos hs, by omega, hx, hs.symm, fun q y hq hy e => ?_, fun q y hq hy e => ?_⟩
        · rcases ih s with ⟨h1, h2⟩ | ⟨j, z, h1, h2, h3, h4, h5, h6⟩
          · by_cases hqi : q = i
            · subst hqi; rw [hx] at hy; cases hy; exact bigB_self _
            · exact absurd e (h2 q y (by omega) hy)
          · rw [← hs, h1] at ha
            have hz : bigB x z = true := by
              have : telA l (some j) x = bigB x z := by unfold telA; simp only [h3]
              rw [← this]; exact ha
            by_cases hqi : q = i
            · subst hqi; rw [hx] at hy; cases hy; exact bigB_self _
            · exact bigB_not (bigB_like hz (h5 q y (by omega) hy e))
        · rcases ih s with ⟨h1, h2⟩ | ⟨j, z, h1, h2, h3, h4, h5, h6⟩
          · exact absurd e (h2 q y (by omega) hy)
          · rw [← hs, h1] at ha
            have hz : bigB x z = true := by
              have : telA l (some j) x = bigB x z := by unfold telA; simp only [h3]
              rw [← this]; exact ha
            exact bigB_like hz (h5 q y (by omega) hy e)
      · rcases ih s with ⟨h1, h2⟩ | ⟨j, z, h1, h2, h3, h4, h5, h6⟩
        · refine .inl ⟨(if_neg hs).trans h1, fun q y hq hy => ?_⟩
          by_cases hqi : q = i
          · subst hqi; rw [hx] at hy; cases hy; exact fun e => hs e.symm
          · exact h2 q y (by omega) hy
        · refine .inr ⟨j, z, (if_neg hs).trans h1, by omega, h3, h4, fun q y hq hy e => ?_, h6⟩
          by_cases hqi : q = i
          · subst hqi; rw [hx] at hy; cases hy; exact absurd e.symm hs
          · exact h5 q y (by omega) hy e
    · rw [telP_keep hx ha]
      rcases ih s with ⟨h1, h2⟩ | ⟨j, z, h1, h2, h3, h4, h5, h6⟩
      · refine .inl ⟨h1, fun q y hq hy => ?_⟩
        by_cases hqi : q = i
        · subst hqi
          rw [hx] at hy
          cases hy
          intro e
          rw [e, h1] at ha
          exact ha rfl
        · exact h2 q y (by omega) hy
      · refine .inr ⟨j, z, h1, by omega, h3, h4, fun q y hq hy e => ?_, h6⟩
        by_cases hqi : q = i
        · subst hqi
          rw [hx] at hy
          cases hy
          rw [e, h1] at ha
          have : telA l (some j) x = bigB x z := by unfold telA; simp only [h3]
          rw [this] at ha
          exact Bool.eq_false_iff.2 ha
        · exact h5 q y (by omega) hy e

end Go.Proofs.Ytjfilicddnhniab
