/- Texts of our own, joined. -/
import Derived.Test.YtjfilicddnhniabJd
import Derived.Lib.Hide
import Derived.Test.YtjfilicddnhniabJb
import Derived.Test.YtjfilicddnhniabJc
import Derived.Laws.StructEq
/- What records tell: the model's choice of a record. -/
namespace Go.Proofs.Ytjfilicddnhniab
open Go.RowKit

theorem Box.set9 {w : World} {b : Nat} {u0 u1 u2 u3 u4 u5 u6 u7 u8 : Value} {t : TypeId} (h : Box w b #[u0, u1, u2, u3, u4, u5, u6, u7, u8] t) (v0 v1 v2 v3 v4 v5 v6 v7 v8 : Value) : Box ((Go.Proofs.Ytjfilicddnhniab.set8 w b v0 v1 v2 v3 v4 v5 v6 v7).setCell ⟨b, 8, none⟩ v8) b #[v0, v1, v2, v3, v4, v5, v6, v7, v8] t :=
  have a0 : Box (w.setCell ⟨b, 0, none⟩ v0) b #[v0, u1, u2, u3, u4, u5, u6, u7, u8] t := h.set 0 v0
  have a1 : Box ((w.setCell ⟨b, 0, none⟩ v0).setCell ⟨b, 1, none⟩ v1) b #[v0, v1, u2, u3, u4, u5, u6, u7, u8] t := a0.set 1 v1
  have a2 : Box (((w.setCell ⟨b, 0, none⟩ v0).setCell ⟨b, 1, none⟩ v1).setCell ⟨b, 2, none⟩ v2) b #[v0, v1, v2, u3, u4, u5, u6, u7, u8] t := a1.set 2 v2
  have a3 : Box ((((w.setCell ⟨b, 0, none⟩ v0).setCell ⟨b, 1, none⟩ v1).setCell ⟨b, 2, none⟩ v2).setCell ⟨b, 3, none⟩ v3) b #[v0, v1, v2, v3, u4, u5, u6, u7, u8] t := a2.set 3 v3
  have a4 : Box (((((w.setCell ⟨b, 0, none⟩ v0).setCell ⟨b, 1, none⟩ v1).setCell ⟨b, 2, none⟩ v2).setCell ⟨b, 3, none⟩ v3).setCell ⟨b, 4, none⟩ v4) b #[v0, v1, v2, v3, v4, u5, u6, u7, u8] t := a3.set 4 v4
  have a5 : Box ((((((w.setCell ⟨b, 0, none⟩ v0).setCell ⟨b, 1, none⟩ v1).setCell ⟨b, 2, none⟩ v2).setCell ⟨b, 3, none⟩ v3).setCell ⟨b, 4, none⟩ v4).setCell ⟨b, 5, none⟩ v5) b #[v0, v1, v2, v3, v4, v5, u6, u7, u8] t := a4.set 5 v5
  have a6 : Box (((((((w.setCell ⟨b, 0, none⟩ v0).setCell ⟨b, 1, none⟩ v1).setCell ⟨b, 2, none⟩ v2).setCell ⟨b, 3, none⟩ v3).setCell ⟨b, 4, none⟩ v4).setCell ⟨b, 5, none⟩ v5).setCell ⟨b, 6, none⟩ v6) b #[v0, v1, v2, v3, v4, v5, v6, u7, u8] t := a5.set 6 v6
  have a7 : Box ((((((((w.setCell ⟨b, 0, none⟩ v0).setCell ⟨b, 1, none⟩ v1).setCell ⟨b, 2, none⟩ v2).setCell ⟨b, 3, none⟩ v3).setCell ⟨b, 4, none⟩ v4).setCell ⟨b, 5, none⟩ v5).setCell ⟨b, 6, none⟩ v6).setCell ⟨b, 7, none⟩ v7) b #[v0, v1, v2, v3, v4, v5, v6, v7, u8] t := a6.set 7 v7
  have a8 : Box (((((((((w.setCell ⟨b, 0, none⟩ v0).setCell ⟨b, 1, none⟩ v1).setCell ⟨b, 2, none⟩ v2).setCell ⟨b, 3, none⟩ v3).setCell ⟨b, 4, none⟩ v4).setCell ⟨b, 5, none⟩ v5).setCell ⟨b, 6, none⟩ v6).setCell ⟨b, 7, none⟩ v7).setCell ⟨b, 8, none⟩ v8) b #[v0, v1, v2, v3, v4, v5, v6, v7, v8] t := a7.set 8 v8
  a8

theorem bestO_take {k : Itm → Int} {p : Itm → Bool} {l : List Itm} {i : Nat} {x : Itm} (h : l[i]? = some x) : bestO k p (l.take (i + 1)) = bestStep k p (bestO k p (l.take i)) x := by
  unfold bestO
  rw [List.take_add_one, h, List.foldl_append]
  rfl

/-- What the choice hands back. -/
def bestT (o : Option Itm) : Value := match o with
  | some x => .tuple #[itV x.1 x.2, .bool true]
  | none => .tuple #[itV 0 Rc.nil, .bool false]
/-- What stands in its variable. -/
def bestX (o : Option Itm) : Itm := o.getD (0, Rc.nil)
theorem bestT_eq (o : Option Itm) : bestT o = .tuple #[itV (bestX o).1 (bestX o).2, .bool o.isSome] := by cases o <;> rfl
def bestP (kind valid uid : Int) (x : Itm) : Bool := decide (x.2.kind = kind ∧ x.2.valid = valid ∧ x.2.uid = uid)
theorem bestStep_no {k : Itm → Int} {p : Itm → Bool} {o : Option Itm} {x : Itm} (h : p x = false) : bestStep k p o x = o := by
  unfold bestStep; rw [h]; rfl
theorem bestStep_yes {p : Itm → Bool} {o : Option Itm} {x : Itm} (h : p x = true) (h2 : o = none ∨ (bestX o).1 < x.1) : bestStep (fun _ => 0) p o x = some x := by
  unfold bestStep; rw [if_pos h]
  cases o with
  | none => rfl
  | some y =>
    have : y.1 < x.1 := by rcases h2 with h2 | h2; cases h2; exact h2
    exact if_pos (decide_eq_true (.inr ⟨rfl, this⟩))
theorem bestStep_old {p : Itm → Bool} {o : Option Itm} {x : Itm} (h : p x = true) (h1 : o.isSome = true) (h2 : ¬ (bestX o).1 < x.1) : bestStep (fun _ => 0) p o x = o := by
  unfold bestStep; rw [if_pos h]
  cases o with
  | none => cases h1
  | some y => exact if_neg (fun c => by have := of_decide_eq_true c; dsimp only at this; have h2 : ¬ y.1 < x.1 := h2; omega)

/-- The choice at work: its answer's variable g0, its own g1. -/
structure BsI (w : World) (g0 g1 : Nat) (x : Itm) (X : World) : Prop where
  res : Box X g0 #[.int .i64 0, .int .i64 0, .int .i64 0, .int .i64 0, .int .i64 0, .int .i64 0, .string ⟨#[]⟩, .string ⟨#[]⟩, .string ⟨#[]⟩] 79
  out : Box X g1 #[.int .i64 x.1, .int .i64 x.2.kind, .int .i64 x.2.valid, .int .i64 x.2.uid, .int .i64 x.2.next, .int .i64 x.2.flags, .string x.2.user, .string x.2.name, .string x.2.text] 79
  bel : Below w.heap.size w X
  l0 : w.heap.size ≤ g0
  l1 : w.heap.size ≤ g1
  n01 : g0 ≠ g1
theorem BsI.later {w X Y : World} {g0 g1 : Nat} {x : Itm} (h : BsI w g0 g1 x X) (hb : Below X.heap.size X Y) : BsI w g0 g1 x Y := ⟨h.res.later hb, h.out.later hb, h.bel.trans (hb.mono h.bel.size), h.l0, h.l1, h.n01⟩
theorem BsI.put {w X : World} {g0 g1 : Nat} {x : Itm} (h : BsI w g0 g1 x X) (y : Itm) : BsI w g0 g1 y ((set8 X g1 (.int .i64 y.1) (.int .i64 y.2.kind) (.int .i64 y.2.valid) (.int .i64 y.2.uid) (.int .i64 y.2.next) (.int .i64 y.2.flags) (.string y.2.user) (.string y.2.name)).setCell ⟨g1, 8, none⟩ (.string y.2.text)) :=
  ⟨h.res.but ((grown_set8 X g1 _ _ _ _ _ _ _ _).trans (stored_grown _ _ _ _)) h.n01, h.out.set9 _ _ _ _ _ _ _ _ _, below_set9 h.bel h.l1 _ _ _ _ _ _ _ _ _, h.l0, h.l1, h.n01⟩

set_option maxRecDepth 100000 in
set_option maxHeartbeats 2000000 in
theorem specBest_any (l : List Itm) (v : Value) (kind valid uid : Int) (w : World) (h : Rows' itE w v l) (hl : l.length ≤ 1099511627776) :
    Calls Try.prog 71 #[v, .int .i64 kind, .int .i64 valid, .int .i64 uid] w fun e w' => e = .returned (bestT (bestR kind valid uid l)) ∧ Below w.heap.size w w' := by
  rw [bestT_eq]
  obtain ⟨ad, cap, rfl, hrow⟩ : ∃ (ad : Option Addr) (cap : Nat), v = .slice ad l.length cap ∧ ∀ X, Below w.heap.size w X → ∀ i x, l[i]? = some x → ∃ g off, ad = some ⟨g, off, none⟩ ∧ X.cell? ⟨g, off + i * 9, none⟩ = some (.int .i64 x.1) ∧ X.cell? ⟨g, off + i * 9 + 1, none⟩ = some (.int .i64 x.2.kind) ∧ X.cell? ⟨g, off + i * 9 + 2, none⟩ = some (.int .i64 x.2.valid) ∧ X.cell? ⟨g, off + i * 9 + 3, none⟩ = some (.int .i64 x.2.uid) ∧ X.cell? ⟨g, off + i * 9 + 4, none⟩ = some (.int .i64 x.2.next) ∧ X.cell? ⟨g, off + i * 9 + 5, none⟩ = some (.int .i64 x.2.flags) ∧ X.cell? ⟨g, off + i * 9 + 6, none⟩ = some (.string x.2.user) ∧ X.cell? ⟨g, off + i * 9 + 7, none⟩ = some (.string x.2.name) ∧ X.cell? ⟨g, off + i * 9 + 8, none⟩ = some (.string x.2.text) := by
    rcases h.ways with ⟨rfl, a, c, rfl⟩ | ⟨hne, g, off, c, rfl, hc, hg, hcl⟩
    · exact ⟨a, c, rfl, fun X _ i x hi => by cases hi⟩
    · exact ⟨_, c, rfl, fun X hb i x hi => ⟨g, off, rfl, it_cells hcl hg hb i x hi⟩⟩
  have HR := Lib.hid hrow
  clear h hrow
  obtain ⟨p, hp⟩ : ∃ p, p = bestP kind valid uid := ⟨_, rfl⟩
  have hpx : ∀ x, p x = decide (x.2.kind = kind ∧ x.2.valid = valid ∧ x.2.uid = uid) := fun x => by rw [hp]; rfl
  have HPX := Lib.hid hpx
  have HB : Hid (bestR kind valid uid l = bestO (fun _ => 0) p (l.take l.length)) := by rw [hp, List.take_length]; rfl
  clear hp hpx
  have I0 : BsI w w.heap.size (w.heap.size + 1) (bestX (bestO (fun _ => 0) p (l.take 0))) ((w.alloc (.cells #[.int .i64 0, .int .i64 0, .int .i64 0, .int .i64 0, .int .i64 0, .int .i64 0, .string ⟨#[]⟩, .string ⟨#[]⟩, .string ⟨#[]⟩] 79)).alloc (.cells #[.int .i64 0, .int .i64 0, .int .i64 0, .int .i64 0, .int .i64 0, .int .i64 0, .string ⟨#[]⟩, .string ⟨#[]⟩, .string ⟨#[]⟩] 79)) := by
    have hb := (belNew w (.cells #[.int .i64 0, .int .i64 0, .int .i64 0, .int .i64 0, .int .i64 0, .int .i64 0, .string ⟨#[]⟩, .string ⟨#[]⟩, .string ⟨#[]⟩] 79)).trans ((belNew (w.alloc (.cells #[.int .i64 0, .int .i64 0, .int .i64 0, .int .i64 0, .int .i64 0, .int .i64 0, .string ⟨#[]⟩, .string ⟨#[]⟩, .string ⟨#[]⟩] 79)) (.cells #[.int .i64 0, .int .i64 0, .int .i64 0, .int .i64 0, .int .i64 0, .int .i64 0, .string ⟨#[]⟩, .string ⟨#[]⟩, .string ⟨#[]⟩] 79)).mono (by simp))
    have h2 := Box.new (w.alloc (.cells #[.int .i64 0, .int .i64 0, .int .i64 0, .int .i64 0, .int .i64 0, .int .i64 0, .string ⟨#[]⟩, .string ⟨#[]⟩, .string ⟨#[]⟩] 79)) #[.int .i64 0, .int .i64 0, .int .i64 0, .int .i64 0, .int .i64 0, .int .i64 0, .string ⟨#[]⟩, .string ⟨#[]⟩, .string ⟨#[]⟩] 79
    have e : (w.alloc (.cells #[.int .i64 0, .int .i64 0, .int .i64 0, .int .i64 0, .int .i64 0, .int .i64 0, .string ⟨#[]⟩, .string ⟨#[]⟩, .string ⟨#[]⟩] 79)).heap.size = w.heap.size + 1 := by simp
    rw [e] at h2
    exact ⟨(Box.new w _ _).later (belNew _ _), h2, hb, Nat.le_refl _, by omega, by omega⟩
  go_enter Try.func71, Try.ntmps71
  go_wp2
  generalize (w.alloc (.cells #[.int .i64 0, .int .i64 0, .int .i64 0, .int .i64 0, .int .i64 0, .int .i64 0, .string ⟨#[]⟩, .string ⟨#[]⟩, .string ⟨#[]⟩] 79)).alloc (.cells #[.int .i64 0, .int .i64 0, .int .i64 0, .int .i64 0, .int .i64 0, .int .i64 0, .string ⟨#[]⟩, .string ⟨#[]⟩, .string ⟨#[]⟩] 79) = W at I0 ⊢
  obtain ⟨g1, hg1⟩ : ∃ g1, w.heap.size + 1 = g1 := ⟨_, rfl⟩
  rw [hg1] at I0 ⊢
  clear hg1
  go_loopw [11, 12] (fun fv iv wr => ∃ i : Nat, i ≤ l.length ∧ iv = .int .i64 (i : Int) ∧ fv = .bool (bestO (fun _ => 0) p (l.take i)).isSome ∧ BsI w w.heap.size g1 (bestX (bestO (fun _ => 0) p (l.take i))) wr) (fun _ iv _ => l.length - (intOf iv).toNat)
  case atStart => exact ⟨0, by omega, rfl, rfl, I0⟩
  case round =>
    clear I0
    obtain ⟨i, hi, rfl, rfl, I⟩ := hrel
    by_cases hlt : i < l.length
    · have hgx : l[i]? = some l[i] := List.getElem?_eq_getElem hlt
      have hst := bestO_take (k := fun _ => 0) (p := p) hgx
      have hpx := HPX.out l[i]
      obtain ⟨ga, oa, rfl, a0, a1, a2, a3, a4, a5, a6, a7, a8⟩ := HR.out _ I.bel i _ hgx
      generalize l[i] = x at *
      obtain ⟨sq, K, V, U, N, FL, US, NM, TX⟩ := x
      simp only at a0 a1 a2 a3 a4 a5 a6 a7 a8 hpx
      generalize bestO (fun _ => 0) p (l.take i) = o at *
      have HST := Lib.hid hst
      have hi0 : (0 : Int) ≤ (i : Int) := by omega
      have hi1 : (i : Int) < (l.length : Int) := by omega
      clear hst hgx
      by_cases hk : K = kind
      · have hk := hk.symm
        subst hk
        by_cases hv : V = valid
        · have hv := hv.symm
          subst hv
          by_cases hd : U = uid
          · have hd := hd.symm
            subst hd
            have J := I.later (belNew wr (.cells #[.int .i64 sq, .int .i64 kind, .int .i64 valid, .int .i64 uid, .int .i64 N, .int .i64 FL, .string US, .string NM, .string TX] 79))
            obtain ⟨u0, u1, u2, u3, u4, u5, u6, u7, u8, v0, v1, v2, v3, v4, v5, v6, v7, v8⟩ := J.out.nine
            have HJ := Lib.hid J
            clear I J
            have hyes : p (sq, ⟨kind, valid, uid, N, FL, US, NM, TX⟩) = true := by rw [hpx]; exact decide_eq_true ⟨rfl, rfl, rfl⟩
            cases ho : o.isSome with
            | false =>
              have HE : Hid (bestO (fun _ => 0) p (l.take (i + 1)) = some (sq, ⟨kind, valid, uid, N, FL, US, NM, TX⟩)) := by rw [HST.out]; exact bestStep_yes hyes (.inl (by cases o; rfl; cases ho))
              clear hpx hyes
              go_wp2
              exact ⟨⟨i + 1, by omega, by simp, by rw [HE.out]; rfl, by rw [HE.out]; exact HJ.out.put (sq, ⟨kind, valid, uid, N, FL, US, NM, TX⟩)⟩, by first | omega | (simp [intOf]; omega) | (show _ - (intOf (Value.int .i64 ((i : Int) + 1))).toNat < _ - (intOf (Value.int .i64 (i : Int))).toNat; simp only [intOf]; omega)⟩
            | true =>
              by_cases hs : (bestX o).1 < sq
              · have HE : Hid (bestO (fun _ => 0) p (l.take (i + 1)) = some (sq, ⟨kind, valid, uid, N, FL, US, NM, TX⟩)) := by rw [HST.out]; exact bestStep_yes hyes (.inr hs)
                clear hpx hyes
                go_wp2
                exact ⟨⟨i + 1, by omega, by simp, by rw [HE.out]; rfl, by rw [HE.out]; exact HJ.out.put (sq, ⟨kind, valid, uid, N, FL, US, NM, TX⟩)⟩, by first | omega | (simp [intOf]; omega) | (show _ - (intOf (Value.int .i64 ((i : Int) + 1))).toNat < _ - (intOf (Value.int .i64 (i : Int))).toNat; simp only [intOf]; omega)⟩
              · have HE : Hid (bestO (fun _ => 0) p (l.take (i + 1)) = o) := by rw [HST.out]; exact bestStep_old hyes ho hs
                clear hpx hyes
                go_wp2
                exact ⟨⟨i + 1, by omega, by simp, by rw [HE.out, ho], by rw [HE.out]; exact HJ.out⟩, by first | omega | (simp [intOf]; omega) | (show _ - (intOf (Value.int .i64 ((i : Int) + 1))).toNat < _ - (intOf (Value.int .i64 (i : Int))).toNat; simp only [intOf]; omega)⟩
          · have J := I.later (belNew wr (.cells #[.int .i64 sq, .int .i64 kind, .int .i64 valid, .int .i64 U, .int .i64 N, .int .i64 FL, .string US, .string NM, .string TX] 79))
            obtain ⟨u0, u1, u2, u3, u4, u5, u6, u7, u8, v0, v1, v2, v3, v4, v5, v6, v7, v8⟩ := J.out.nine
            have HJ := Lib.hid J
            clear I J
            have hno : p (sq, ⟨kind, valid, U, N, FL, US, NM, TX⟩) = false := by rw [hpx]; exact decide_eq_false (fun c => hd c.2.2)
            have HE : Hid (bestO (fun _ => 0) p (l.take (i + 1)) = o) := by rw [HST.out]; exact bestStep_no hno
            clear hpx hno
            go_wp2
            exact ⟨⟨i + 1, by omega, by simp, by rw [HE.out], by rw [HE.out]; exact HJ.out⟩, by first | omega | (simp [intOf]; omega) | (show _ - (intOf (Value.int .i64 ((i : Int) + 1))).toNat < _ - (intOf (Value.int .i64 (i : Int))).toNat; simp only [intOf]; omega)⟩
        · have J := I.later (belNew wr (.cells #[.int .i64 sq, .int .i64 kind, .int .i64 V, .int .i64 U, .int .i64 N, .int .i64 FL, .string US, .string NM, .string TX] 79))
          obtain ⟨u0, u1, u2, u3, u4, u5, u6, u7, u8, v0, v1, v2, v3, v4, v5, v6, v7, v8⟩ := J.out.nine
          have HJ := Lib.hid J
          clear I J
          have hno : p (sq, ⟨kind, V, U, N, FL, US, NM, TX⟩) = false := by rw [hpx]; exact decide_eq_false (fun c => hv c.2.1)
          have HE : Hid (bestO (fun _ => 0) p (l.take (i + 1)) = o) := by rw [HST.out]; exact bestStep_no hno
          clear hpx hno
          go_wp2
          exact ⟨⟨i + 1, by omega, by simp, by rw [HE.out], by rw [HE.out]; exact HJ.out⟩, by first | omega | (simp [intOf]; omega) | (show _ - (intOf (Value.int .i64 ((i : Int) + 1))).toNat < _ - (intOf (Value.int .i64 (i : Int))).toNat; simp only [intOf]; omega)⟩
      · have J := I.later (belNew wr (.cells #[.int .i64 sq, .int .i64 K, .int .i64 V, .int .i64 U, .int .i64 N, .int .i64 FL, .string US, .string NM, .string TX] 79))
        obtain ⟨u0, u1, u2, u3, u4, u5, u6, u7, u8, v0, v1, v2, v3, v4, v5, v6, v7, v8⟩ := J.out.nine
        have HJ := Lib.hid J
        clear I J
        have hno : p (sq, ⟨K, V, U, N, FL, US, NM, TX⟩) = false := by rw [hpx]; exact decide_eq_false (fun c => hk c.1)
        have HE : Hid (bestO (fun _ => 0) p (l.take (i + 1)) = o) := by rw [HST.out]; exact bestStep_no hno
        clear hpx hno
        go_wp2
        exact ⟨⟨i + 1, by omega, by simp, by rw [HE.out], by rw [HE.out]; exact HJ.out⟩, by first | omega | (simp [intOf]; omega) | (show _ - (intOf (Value.int .i64 ((i : Int) + 1))).toNat < _ - (intOf (Value.int .i64 (i : Int))).toNat; simp only [intOf]; omega)⟩
    · have hie : i = l.length := by omega
      subst hie
      obtain ⟨u0, u1, u2, u3, u4, u5, u6, u7, u8, v0, v1, v2, v3, v4, v5, v6, v7, v8⟩ := I.out.nine
      obtain ⟨y0, y1, y2, y3, y4, y5, y6, y7, y8, f0, f1, f2, f3, f4, f5, f6, f7, f8⟩ := I.res.nine
      have BB := Lib.hid I.bel
      clear I
      generalize hoo : bestO (fun _ => 0) p (l.take l.length) = o at *
      have HO : Hid (bestR kind valid uid l = o) := HB.out
      clear hoo HB
      go_wp2
      refine bodyPost_ret (v := .tuple #[.agg #[.int .i64 (bestX o).1, .int .i64 (bestX o).2.kind, .int .i64 (bestX o).2.valid, .int .i64 (bestX o).2.uid, .int .i64 (bestX o).2.next, .int .i64 (bestX o).2.flags, .string (bestX o).2.user, .string (bestX o).2.name, .string (bestX o).2.text], .bool o.isSome]) (by simp [results, Try.results71, go_sem, y0, y1, y2, y3, y4, y5, y6, y7, y8]) rfl ?_
      exact ⟨by rw [HO.out]; rfl, below_set9 BB.out (Nat.le_refl _) _ _ _ _ _ _ _ _ _⟩

end Go.Proofs.Ytjfilicddnhniab

/- States held against each other: the model's SameState. -/
namespace Go.Proofs.Ytjfilicddnhniab
open Go.RowKit

theorem Box.five {w : World} {b : Nat} {u0 u1 u2 u3 u4 : Value} {t : TypeId} (h : Box w b #[u0, u1, u2, u3, u4] t) : w.cell? ⟨b, 0, none⟩ = some u0 ∧ w.cell? ⟨b, 1, none⟩ = some u1 ∧ w.cell? ⟨b, 2, none⟩ = some u2 ∧ w.cell? ⟨b, 3, none⟩ = some u3 ∧ w.cell? ⟨b, 4, none⟩ = some u4 :=
  ⟨h.cell 0 _ rfl, h.cell 1 _ rfl, h.cell 2 _ rfl, h.cell 3 _ rfl, h.cell 4 _ rfl⟩
/-- Mails that can be read, ps a loop reads them. -/
def MlRow (w : World) (ad : Option Addr) (l : List Ml) : Prop := ∀ X, Below w.heap.size w X → ∀ i m, l[i]? = some m → ∃ g off, ad = some ⟨g, off, none⟩ ∧ X.cell? ⟨g, off + i * 3, none⟩ = some (.int .i64 m.uid) ∧ X.cell? ⟨g, off + i * 3 + 1, none⟩ = some (.int .i64 m.flags) ∧ X.cell? ⟨g, off + i * 3 + 2, none⟩ = some (.string m.text)
theorem MlRow.get {w : World} {ad : Option Addr} {l : List Ml} (h : MlRow w ad l) {X : World} (hb : Below w.heap.size w X) {i : Nat} {m : Ml} (hi : l[i]? = some m) : ∃ g off, ad = some ⟨g, off, none⟩ ∧ X.cell? ⟨g, off + i * 3, none⟩ = some (.int .i64 m.uid) ∧ X.cell? ⟨g, off + i * 3 + 1, none⟩ = some (.int .i64 m.flags) ∧ X.cell? ⟨g, off + i * 3 + 2, none⟩ = some (.string m.text) := h X hb i m hi
theorem Rows'.mails {w : World} {a : Option Addr} {n c : Nat} {l : List Ml} (h : Rows' mlE w (.slice a n c) l) : n = l.length ∧ MlRow w a l := by
  rcases h.ways with ⟨rfl, a, c, e⟩ | ⟨hne, g, off, c, e, hc, hg, hcl⟩
  · cases e
    exact ⟨rfl, fun X _ i x hi => by cases hi⟩
  · cases e
    exact ⟨rfl, fun X hb i x hi => ⟨g, off, rfl, ml_cells hcl hg hb i x hi⟩⟩

theorem ba_same' (a b : ByteArray) : a.toList = b.toList ↔ a = b := by
  have h := ba_beq a b
  constructor
  · intro e
    rw [beq_iff_eq.2 e] at h
    exact of_decide_eq_true h.symm
  · intro e; rw [e]

set_option maxRecDepth 100000 in
set_option maxHeartbeats 4000000 in
theorem specSameState_any (ps qs : List Bx) (va vb : Value) (w : World) (ha : BRd w va ps) (hb : BRd w vb qs) (hla : ps.length ≤ 1099511627776) (hma : ∀ b ∈ ps, b.mails.length ≤ 1099511627776) (hmb : ∀ b ∈ qs, b.mails.length ≤ 1099511627776) :
    Calls Try.prog 10 #[.agg #[va], .agg #[vb]] w fun e w' => e = .returned (.bool (sameS ps qs)) ∧ Below w.heap.size w w' := by
  obtain ⟨ad, cap, rfl, hrowa⟩ := ha.boxes
  obtain ⟨ad2, cap2, rfl, hrowb⟩ := hb.boxes
  have HA := Lib.hid hrowa
  have HB := Lib.hid hrowb
  have HMA := Lib.hid hma
  have HMB := Lib.hid hmb
  clear ha hb hrowa hrowb hma hmb
  obtain ⟨D, hD⟩ : ∃ D, sameS ps qs = D := ⟨_, rfl⟩
  have HD := Lib.hid hD
  rw [hD]
  clear hD
  by_cases hlen : ps.length = qs.length
  · obtain ⟨n, hn⟩ : ∃ n, ps.length = n := ⟨_, rfl⟩
    have hm : qs.length = n := by omega
    have HN := Lib.hid hn
    have HM := Lib.hid hm
    rw [hn] at hla
    rw [hn, hm]
    clear hn hm hlen
    have b1 : Below w.heap.size w ((w.alloc (.cells #[.slice ad n cap] 29)).alloc (.cells #[.slice ad2 n cap2] 29)) := ((Below.refl _ _).alloc (Nat.le_refl _) _).alloc (by simp) _
    have X2 := (Box.new w #[.slice ad n cap] 29).later (belNew _ (.cells #[.slice ad2 n cap2] 29))
    have X3 : Box ((w.alloc (.cells #[.slice ad n cap] 29)).alloc (.cells #[.slice ad2 n cap2] 29)) (w.heap.size + 1) #[.slice ad2 n cap2] 29 := by
      have := Box.new (w.alloc (.cells #[.slice ad n cap] 29)) #[.slice ad2 n cap2] 29
      rwa [show (w.alloc (.cells #[.slice ad n cap] 29)).heap.size = w.heap.size + 1 from by simp] at this
    go_enter Try.func10, Try.ntmps10
    go_wp2
    generalize (w.alloc (.cells #[.slice ad n cap] 29)).alloc (.cells #[.slice ad2 n cap2] 29) = w1 at b1 X2 X3 ⊢
    have BW := Lib.hid b1
    clear b1
    generalize w.heap.size + 1 = g3 at X3 ⊢
    generalize hg2 : w.heap.size = g2 at X2 ⊢
    clear hg2
    go_loopw [5] (fun iv wr => ∃ i : Nat, i ≤ n ∧ iv = .int .i64 (i : Int) ∧ (∀ (j : Nat) (x y : Bx), ps[j]? = some x → qs[j]? = some y → j < i → x = y) ∧ Below w1.heap.size w1 wr) (fun iv _ => n - (intOf iv).toNat)
    case atStart => exact ⟨0, by omega, rfl, fun j x y _ _ hj => by omega, Below.refl _ _⟩
    case round =>
      obtain ⟨i, hi, rfl, hU, hb⟩ := hrel
      have HU := Lib.hid hU
      clear hU
      have Y2 : wr.cell? ⟨g2, 0, none⟩ = some (.slice ad n cap) := (X2.later hb).cell 0 _ rfl
      have Y3 : wr.cell? ⟨g3, 0, none⟩ = some (.slice ad2 n cap2) := (X3.later hb).cell 0 _ rfl
      by_cases hlt : i < n
      · obtain ⟨x, hgx⟩ : ∃ x, ps[i]? = some x := ⟨_, List.getElem?_eq_getElem (by rw [HN.out]; exact hlt)⟩
        obtain ⟨y, hgy⟩ : ∃ y, qs[i]? = some y := ⟨_, List.getElem?_eq_getElem (by rw [HM.out]; exact hlt)⟩
        have bW : Below w.heap.size w wr := BW.out.trans (hb.mono BW.out.size)
        obtain ⟨gp, op, a1, n1, c1, rfl, p0, p1, p2, p3, p4, ra⟩ := HA.out _ bW i _ hgx
        obtain ⟨gq, oq, a2, n2, c2, rfl, q0, q1, q2, q3, q4, rb⟩ := HB.out _ (bW.trans ((belNew _ (.cells #[.int .i64 x.valid, .string x.user, .string x.name, .int .i64 x.next, .slice a1 n1 c1] 57)).mono bW.size)) i _ hgy
        have hmx := HMA.out x (List.mem_of_getElem? hgx)
        have hmy := HMB.out y (List.mem_of_getElem? hgy)
        have HX := Lib.hid hgx
        have HY := Lib.hid hgy
        clear hgx hgy
        obtain ⟨rfl, ra'⟩ := ra.mails
        obtain ⟨rfl, rb'⟩ := rb.mails
        have RA := Lib.hid ra'
        have RB := Lib.hid rb'
        clear ra rb ra' rb'
        have hi0 : (0 : Int) ≤ (i : Int) := by omega
        have hi1 : (i : Int) < (n : Int) := by omega
        have X6 := (Box.new wr #[.int .i64 x.valid, .string x.user, .string x.name, .int .i64 x.next, .slice a1 x.mails.length c1] 57).later (belNew _ (.cells #[.int .i64 y.valid, .string y.user, .string y.name, .int .i64 y.next, .slice a2 y.mails.length c2] 57))
        have X7 : Box ((wr.alloc (.cells #[.int .i64 x.valid, .string x.user, .string x.name, .int .i64 x.next, .slice a1 x.mails.length c1] 57)).alloc (.cells #[.int .i64 y.valid, .string y.user, .string y.name, .int .i64 y.next, .slice a2 y.mails.length c2] 57)) (wr.heap.size + 1) #[.int .i64 y.valid, .string y.user, .string y.name, .int .i64 y.next, .slice a2 y.mails.length c2] 57 := by
          have := Box.new (wr.alloc (.cells #[.int .i64 x.valid, .string x.user, .string x.name, .int .i64 x.next, .slice a1 x.mails.length c1] 57)) #[.int .i64 y.valid, .string y.user, .string y.name, .int .i64 y.next, .slice a2 y.mails.length c2] 57
          rwa [show (wr.alloc (.cells #[.int .i64 x.valid, .string x.user, .string x.name, .int .i64 x.next, .slice a1 x.mails.length c1] 57)).heap.size = wr.heap.size + 1 from by simp] at this
        have b2 : Below w1.heap.size w1 ((wr.alloc (.cells #[.int .i64 x.valid, .string x.user, .string x.name, .int .i64 x.next, .slice a1 x.mails.length c1] 57)).alloc (.cells #[.int .i64 y.valid, .string y.user, .string y.name, .int .i64 y.next, .slice a2 y.mails.length c2] 57)) := (hb.alloc hb.size _).alloc (by simp; have := hb.size; omega) _
        have Z3 := (X3.later (hb.trans ((belNew wr (.cells #[.int .i64 x.valid, .string x.user, .string x.name, .int .i64 x.next, .slice a1 x.mails.length c1] 57)).mono hb.size))).cell 0 _ rfl
        go_upto_region 8 with fail
        generalize (wr.alloc (.cells #[.int .i64 x.valid, .string x.user, .string x.name, .int .i64 x.next, .slice a1 x.mails.length c1] 57)).alloc (.cells #[.int .i64 y.valid, .string y.user, .string y.name, .int .i64 y.next, .slice a2 y.mails.length c2] 57) = w2 at b2 X6 X7 ⊢
        generalize wr.heap.size + 1 = g7 at X7 ⊢
        generalize wr.heap.size = g6 at X6 ⊢
        clear p0 p1 p2 p3 p4 q0 q1 q2 q3 q4 Y2 Y3 Z3 hb bW
        obtain ⟨x0, x1, x2, x3, x4⟩ := X6.five
        obtain ⟨y0, y1, y2, y3, y4⟩ := X7.five

        have HXB := Lib.hid X6
        have HYB := Lib.hid X7
        have HB2 := Lib.hid b2
        have hend : Below w.heap.size w w2 := BW.out.trans (b2.mono BW.out.size)
        clear X6 X7 b2
        by_cases e0 : x.valid = y.valid
        case neg =>
          go_wp2
          go_ret
          exact ⟨by rw [← HD.out, sameS_part HX.out HY.out (fun e => e0 (by rw [e]))]; rfl, hend⟩
        by_cases e1 : x.user = y.user
        case neg =>
          have e1' : ¬ (x.user.toList = y.user.toList) := fun h => e1 ((ba_same' _ _).1 h)
          go_wp2
          go_ret
          exact ⟨by rw [← HD.out, sameS_part HX.out HY.out (fun e => e1 (by rw [e]))]; rfl, hend⟩
        by_cases e2 : x.name = y.name
        case neg =>
          have e2' : ¬ (x.name.toList = y.name.toList) := fun h => e2 ((ba_same' _ _).1 h)
          go_wp2
          go_ret
          exact ⟨by rw [← HD.out, sameS_part HX.out HY.out (fun e => e2 (by rw [e]))]; rfl, hend⟩
        by_cases e3 : x.next = y.next
        case neg =>
          go_wp2
          go_ret
          exact ⟨by rw [← HD.out, sameS_part HX.out HY.out (fun e => e3 (by rw [e]))]; rfl, hend⟩
        by_cases e4 : x.mails.length = y.mails.length
        case neg =>
          have e4' : ¬ ((x.mails.length : Int) = (y.mails.length : Int)) := by omega
          go_wp2
          go_ret
          exact ⟨by rw [← HD.out, sameS_part HX.out HY.out (fun e => e4 (by rw [e]))]; rfl, hend⟩
        have HSM : Hid ((∀ (k : Nat) (m m' : Ml), x.mails[k]? = some m → y.mails[k]? = some m' → m = m') → x = y) := fun h => bx_same e0 e1 e2 e3 e4 h
        obtain ⟨n1, hm0⟩ : ∃ m, x.mails.length = m := ⟨_, rfl⟩
        have hm1 : y.mails.length = n1 := by omega
        have HM0 := Lib.hid hm0
        have HM1 := Lib.hid hm1
        rw [hm0] at HXB x4 hmx
        rw [hm1] at HYB y4
        rw [hm0, hm1]
        clear hm0 hm1 hmy e4
        go_wp2
        clear x0 x1 x2 x3 x4 y0 y1 y2 y3 y4 e0 e1 e2 e3
        go_loopw [8] (fun kv wr2 => ∃ k : Nat, k ≤ n1 ∧ kv = .int .i64 (k : Int) ∧ (∀ (j : Nat) (m m' : Ml), x.mails[j]? = some m → y.mails[j]? = some m' → j < k → m = m') ∧ Below w2.heap.size w2 wr2) (fun kv _ => n1 - (intOf kv).toNat)
        case atStart => exact ⟨0, by omega, rfl, fun j m m' _ _ hj => by omega, Below.refl _ _⟩
        case round =>
          obtain ⟨k, hk, rfl, hU2, hb⟩ := hrel
          have HU2 := Lib.hid hU2
          clear hU2
          have x4 : wr.cell? ⟨g6, 4, none⟩ = some (.slice a1 n1 c1) := (HXB.out.later hb).cell 4 _ rfl
          by_cases hlk : k < n1
          · have bW : Below w.heap.size w wr := hend.trans (hb.mono hend.size)
            have bD : Below w.heap.size w wr.drew := bW.trans ((Below.refl wr.heap.size wr).drew.mono bW.size)
            have bR : Below w2.heap.size w2 wr.drew := hb.trans ((Below.refl wr.heap.size wr).drew.mono hb.size)
            have z4 : wr.drew.cell? ⟨g6, 4, none⟩ = some (.slice a1 n1 c1) := (HXB.out.later bR).cell 4 _ rfl
            have y4 : wr.drew.cell? ⟨g7, 4, none⟩ = some (.slice a2 n1 c2) := (HYB.out.later bR).cell 4 _ rfl
            obtain ⟨m, hgm⟩ : ∃ m, x.mails[k]? = some m := ⟨_, List.getElem?_eq_getElem (by rw [HM0.out]; exact hlk)⟩
            obtain ⟨m', hgm'⟩ : ∃ m, y.mails[k]? = some m := ⟨_, List.getElem?_eq_getElem (by rw [HM1.out]; exact hlk)⟩
            obtain ⟨ga, oa, rfl, p0, p1, p2⟩ := MlRow.get RA.out bD hgm
            obtain ⟨gb, ob, rfl, q0, q1, q2⟩ := MlRow.get RB.out bD hgm'
            have HG := Lib.hid hgm
            have HG' := Lib.hid hgm'
            clear hgm hgm' hb bW
            obtain ⟨U, F, T⟩ := m
            obtain ⟨U', F', T'⟩ := m'
            simp only at p0 p1 p2 q0 q1 q2
            have hk0 : (0 : Int) ≤ (k : Int) := by omega
            have hk1 : (k : Int) < (n1 : Int) := by omega
            by_cases hsame : U = U' ∧ F = F' ∧ T = T'
            · obtain ⟨rfl, rfl, rfl⟩ := hsame
              go_wp2_with fail
              refine wp_region_held_drew (S := fun x => wr.drew = x) (by kernel_rfl) rfl (fun hHeld => ?_)
              refine takeL (i := 0) (v := .pointer (some ⟨g6, 4, none⟩)) rfl (by kernel_rfl) (by kernel_rfl) (by kernel_rfl) (fun _ _ _ h => h) (Or.inl ⟨by rfl, ?_⟩) (by assumption) ?_
              · intro x hSx; subst hSx; go_simp
              try simp only [Act.put, List.setIfInBounds_toArray, List.set_cons_zero, List.set_cons_succ]
              refine takeL (i := 1) (v := .slice (some ⟨ga, oa, none⟩) n1 c1) rfl (by kernel_rfl) (by kernel_rfl) (by kernel_rfl) (fun _ _ _ h => h) (Or.inl ⟨by rfl, ?_⟩) (by assumption) ?_
              · intro x hSx; subst hSx; go_simp
              try simp only [Act.put, List.setIfInBounds_toArray, List.set_cons_zero, List.set_cons_succ]
              refine takeL (i := 2) (v := .int .i64 (k : Int)) rfl (by kernel_rfl) (by kernel_rfl) (by kernel_rfl) (fun _ _ _ h => h) (Or.inl ⟨by rfl, ?_⟩) (by assumption) ?_
              · intro x hSx; subst hSx; go_simp
              try simp only [Act.put, List.setIfInBounds_toArray, List.set_cons_zero, List.set_cons_succ]
              refine takeL (i := 3) (v := .pointer (some ⟨ga, oa + k * 3, none⟩)) rfl (by kernel_rfl) (by kernel_rfl) (by kernel_rfl) (fun _ _ _ h => h) (Or.inl ⟨by rfl, ?_⟩) (by assumption) ?_
              · intro x hSx; subst hSx; go_simp
              try simp only [Act.put, List.setIfInBounds_toArray, List.set_cons_zero, List.set_cons_succ]
              refine takeL (i := 4) (v := .agg #[.int .i64 U, .int .i64 F, .string T]) rfl (by kernel_rfl) (by kernel_rfl) (by kernel_rfl) (fun _ _ _ h => h) (Or.inl ⟨by rfl, ?_⟩) (by assumption) ?_
              · intro x hSx; subst hSx; go_simp
              try simp only [Act.put, List.setIfInBounds_toArray, List.set_cons_zero, List.set_cons_succ]
              refine takeL (i := 5) (v := .pointer (some ⟨g7, 4, none⟩)) rfl (by kernel_rfl) (by kernel_rfl) (by kernel_rfl) (fun _ _ _ h => h) (Or.inl ⟨by rfl, ?_⟩) (by assumption) ?_
              · intro x hSx; subst hSx; go_simp
              try simp only [Act.put, List.setIfInBounds_toArray, List.set_cons_zero, List.set_cons_succ]
              refine takeL (i := 6) (v := .slice (some ⟨gb, ob, none⟩) n1 c2) rfl (by kernel_rfl) (by kernel_rfl) (by kernel_rfl) (fun _ _ _ h => h) (Or.inl ⟨by rfl, ?_⟩) (by assumption) ?_
              · intro x hSx; subst hSx; go_simp
              try simp only [Act.put, List.setIfInBounds_toArray, List.set_cons_zero, List.set_cons_succ]
              refine takeL (i := 7) (v := .int .i64 (k : Int)) rfl (by kernel_rfl) (by kernel_rfl) (by kernel_rfl) (fun _ _ _ h => h) (Or.inl ⟨by rfl, ?_⟩) (by assumption) ?_
              · intro x hSx; subst hSx; go_simp
              try simp only [Act.put, List.setIfInBounds_toArray, List.set_cons_zero, List.set_cons_succ]
              refine takeL (i := 8) (v := .pointer (some ⟨gb, ob + k * 3, none⟩)) rfl (by kernel_rfl) (by kernel_rfl) (by kernel_rfl) (fun _ _ _ h => h) (Or.inl ⟨by rfl, ?_⟩) (by assumption) ?_
              · intro x hSx; subst hSx; go_simp
              try simp only [Act.put, List.setIfInBounds_toArray, List.set_cons_zero, List.set_cons_succ]
              refine takeL (i := 9) (v := .agg #[.int .i64 U, .int .i64 F, .string T]) rfl (by kernel_rfl) (by kernel_rfl) (by kernel_rfl) (fun _ _ _ h => h) (Or.inl ⟨by rfl, ?_⟩) (by assumption) ?_
              · intro x hSx; subst hSx; go_simp
              try simp only [Act.put, List.setIfInBounds_toArray, List.set_cons_zero, List.set_cons_succ]
              refine takeL (i := 10) (v := .bool false) rfl (by kernel_rfl) (by kernel_rfl) (by kernel_rfl) (fun _ _ _ h => h) (Or.inl ⟨by rfl, ?_⟩) (by assumption) ?_
              · intro x hSx; subst hSx; go_simp
              try simp only [Act.put, List.setIfInBounds_toArray, List.set_cons_zero, List.set_cons_succ]
              refine wpAnyH_done (by kernel_rfl) ?_ _
              go_wp2
              exact ⟨⟨k + 1, by omega, by go_num, fun j m m' hj hj' hjk => by
                by_cases c : j = k
                · subst c; have h1 := HG.out; have h2 := HG'.out; rw [hj] at h1; rw [hj'] at h2; cases h1; cases h2; rfl
                · exact HU2.out j m m' hj hj' (by omega), bR⟩, by first | omega | (simp [intOf]; omega)⟩
            · have HE : Hid (D = false) := by
                rw [← HD.out]
                exact sameS_part HX.out HY.out (fun e => hsame (by
                  have h1 := HG.out; have h2 := HG'.out
                  rw [e, h2] at h1; cases h1; exact ⟨rfl, rfl, rfl⟩))
              have HNE := Lib.hid hsame
              clear hsame
              go_wp2_with fail
              refine wp_region_held_drew (S := fun x => wr.drew = x) (by kernel_rfl) rfl (fun hHeld => ?_)
              refine takeL (i := 0) (v := .pointer (some ⟨g6, 4, none⟩)) rfl (by kernel_rfl) (by kernel_rfl) (by kernel_rfl) (fun _ _ _ h => h) (Or.inl ⟨by rfl, ?_⟩) (by assumption) ?_
              · intro x hSx; subst hSx; go_simp
              try simp only [Act.put, List.setIfInBounds_toArray, List.set_cons_zero, List.set_cons_succ]
              refine takeL (i := 1) (v := .slice (some ⟨ga, oa, none⟩) n1 c1) rfl (by kernel_rfl) (by kernel_rfl) (by kernel_rfl) (fun _ _ _ h => h) (Or.inl ⟨by rfl, ?_⟩) (by assumption) ?_
              · intro x hSx; subst hSx; go_simp
              try simp only [Act.put, List.setIfInBounds_toArray, List.set_cons_zero, List.set_cons_succ]
              refine takeL (i := 2) (v := .int .i64 (k : Int)) rfl (by kernel_rfl) (by kernel_rfl) (by kernel_rfl) (fun _ _ _ h => h) (Or.inl ⟨by rfl, ?_⟩) (by assumption) ?_
              · intro x hSx; subst hSx; go_simp
              try simp only [Act.put, List.setIfInBounds_toArray, List.set_cons_zero, List.set_cons_succ]
              refine takeL (i := 3) (v := .pointer (some ⟨ga, oa + k * 3, none⟩)) rfl (by kernel_rfl) (by kernel_rfl) (by kernel_rfl) (fun _ _ _ h => h) (Or.inl ⟨by rfl, ?_⟩) (by assumption) ?_
              · intro x hSx; subst hSx; go_simp
              try simp only [Act.put, List.setIfInBounds_toArray, List.set_cons_zero, List.set_cons_succ]
              refine takeL (i := 4) (v := .agg #[.int .i64 U, .int .i64 F, .string T]) rfl (by kernel_rfl) (by kernel_rfl) (by kernel_rfl) (fun _ _ _ h => h) (Or.inl ⟨by rfl, ?_⟩) (by assumption) ?_
              · intro x hSx; subst hSx; go_simp
              try simp only [Act.put, List.setIfInBounds_toArray, List.set_cons_zero, List.set_cons_succ]
              refine takeL (i := 5) (v := .pointer (some ⟨g7, 4, none⟩)) rfl (by kernel_rfl) (by kernel_rfl) (by kernel_rfl) (fun _ _ _ h => h) (Or.inl ⟨by rfl, ?_⟩) (by assumption) ?_
              · intro x hSx; subst hSx; go_simp
              try simp only [Act.put, List.setIfInBounds_toArray, List.set_cons_zero, List.set_cons_succ]
              refine takeL (i := 6) (v := .slice (some ⟨gb, ob, none⟩) n1 c2) rfl (by kernel_rfl) (by kernel_rfl) (by kernel_rfl) (fun _ _ _ h => h) (Or.inl ⟨by rfl, ?_⟩) (by assumption) ?_
              · intro x hSx; subst hSx; go_simp
              try simp only [Act.put, List.setIfInBounds_toArray, List.set_cons_zero, List.set_cons_succ]
              refine takeL (i := 7) (v := .int .i64 (k : Int)) rfl (by kernel_rfl) (by kernel_rfl) (by kernel_rfl) (fun _ _ _ h => h) (Or.inl ⟨by rfl, ?_⟩) (by assumption) ?_
              · intro x hSx; subst hSx; go_simp
              try simp only [Act.put, List.setIfInBounds_toArray, List.set_cons_zero, List.set_cons_succ]
              refine takeL (i := 8) (v := .pointer (some ⟨gb, ob + k * 3, none⟩)) rfl (by kernel_rfl) (by kernel_rfl) (by kernel_rfl) (fun _ _ _ h => h) (Or.inl ⟨by rfl, ?_⟩) (by assumption) ?_
              · intro x hSx; subst hSx; go_simp
              try simp only [Act.put, List.setIfInBounds_toArray, List.set_cons_zero, List.set_cons_succ]
              refine takeL (i := 9) (v := .agg #[.int .i64 U', .int .i64 F', .string T']) rfl (by kernel_rfl) (by kernel_rfl) (by kernel_rfl) (fun _ _ _ h => h) (Or.inl ⟨by rfl, ?_⟩) (by assumption) ?_
              · intro x hSx; subst hSx; go_simp
              try simp only [Act.put, List.setIfInBounds_toArray, List.set_cons_zero, List.set_cons_succ]
              refine takeL (i := 10) (v := .bool true) rfl (by kernel_rfl) (by kernel_rfl) (by kernel_rfl) (fun _ _ _ h => h) (Or.inl ⟨by rfl, ?_⟩) (by assumption) ?_
              · intro x hSx; subst hSx; go_simp; exact fun h1 h2 h3 => HNE.out ⟨h1, h2, (ba_same' _ _).1 h3⟩
              try simp only [Act.put, List.setIfInBounds_toArray, List.set_cons_zero, List.set_cons_succ]
              refine wpAnyH_done (by kernel_rfl) ?_ _
              go_wp2
              go_ret
              exact ⟨by rw [HE.out]; rfl, bD⟩
          · go_wp2
            go_roundw
            case rel => exact ⟨i + 1, by omega, by go_num, fun j u v h1 h2 hj => by
              by_cases c : j = i
              · subst c
                have e1 := HX.out; have e2 := HY.out; rw [h1] at e1; rw [h2] at e2; cases e1; cases e2
                exact HSM.out (fun q m m' h3 h4 => HU2.out q m m' h3 h4 (by have := (List.getElem?_eq_some_iff.1 h3).1; have := HM0.out; omega))
              · exact HU.out j u v h1 h2 (by omega), HB2.out.trans (hb.mono HB2.out.size)⟩
            case measure => simp [intOf]; omega
      · go_wp2
        go_ret
        refine ⟨?_, BW.out.trans (hb.mono BW.out.size)⟩
        rw [← HD.out, sameS_all (HN.out.trans HM.out.symm) (fun j x y h1 h2 => HU.out j x y h1 h2 (by have := (List.getElem?_eq_some_iff.1 h1).1; have := HN.out; omega))]; rfl
  · have b1 : Below w.heap.size w ((w.alloc (.cells #[.slice ad ps.length cap] 29)).alloc (.cells #[.slice ad2 qs.length cap2] 29)) := ((Below.refl _ _).alloc (Nat.le_refl _) _).alloc (by simp) _
    have hne : ¬ ((ps.length : Int) = (qs.length : Int)) := by omega
    go_enter Try.func10, Try.ntmps10
    go_wp2
    go_ret
    exact ⟨by rw [← HD.out, sameS_len hlen]; rfl, b1⟩

end Go.Proofs.Ytjfilicddnhniab
