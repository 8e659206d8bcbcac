/- Texts of our own, joined. -/
import Derived.Test.YtahebgceoidebaaGreatJh
import Derived.Test.YtahebgceoidebaaGreatJb
import Derived.Test.YtahebgceoidebaaGreatJd
import Derived.Laws.StructEq
import Derived.Test.YtahebgceoidebaaGreatJe
import Derived.Test.YtahebgceoidebaaGreatJg
import Derived.WalkSmall
import Derived.Test.YtahebgceoidebaaGreatJc
/- States held against each other: the model's SameState. -/
namespace Go.Proofs.YtahebgceoidebaaGreat
open Go.RowKit

theorem Box.five {w : World} {b : Nat} {u0 u1 u2 u3 u4 : Value} {t : TypeId} (h : Box w b #[u0, u1, u2, u3, u4] t) : w.cell? ⟨b, 0, none⟩ = some u0 ∧ w.cell? ⟨b, 1, none⟩ = some u1 ∧ w.cell? ⟨b, 2, none⟩ = some u2 ∧ w.cell? ⟨b, 3, none⟩ = some u3 ∧ w.cell? ⟨b, 4, none⟩ = some u4 :=
  ⟨h.cell 0 _ rfl, h.cell 1 _ rfl, h.cell 2 _ rfl, h.cell 3 _ rfl, h.cell 4 _ rfl⟩
/-- Mails that can be read, ps a loop reads them. -/
def MlRow (w : World) (ad : Option Addr) (l : List Ml) : Prop := ∀ X, Below w.heap.size w X → ∀ i m, l[i]? = some m → ∃ g off, ad = some ⟨g, off, none⟩ ∧ X.cell? ⟨g, off + i * 3, none⟩ = some (.int .i64 m.uid) ∧ X.cell? ⟨g, off + i * 3 + 1, none⟩ = some (.int .i64 m.flags) ∧ X.cell? ⟨g, off + i * 3 + 2, none⟩ = some (.string m.text)
theorem MlRow.get {w : World} {ad : Option Addr} {l : List Ml} (h : MlRow w ad l) {X : World} (hb : Below w.heap.size w X) {i : Nat} {m : Ml} (hi : l[i]? = some m) : ∃ g off, ad = some ⟨g, off, none⟩ ∧ X.cell? ⟨g, off + i * 3, none⟩ = some (.int .i64 m.uid) ∧ X.cell? ⟨g, off + i * 3 + 1, none⟩ = some (.int .i64 m.flags) ∧ X.cell? ⟨g, off + i * 3 + 2, none⟩ = some (.string m.text) := h X hb i m hi
theorem Rows'.mails {w : World} {a : Option Addr} {n c : Nat} {l : List Ml} (h : Rows' mlE w (.slice a n c) l) : n = l.length ∧ MlRow w a l := by
  rcases h.ways with ⟨rfl, a, c, e⟩ | ⟨hne, g, off, c, e, hc, hg, hcl⟩
  · cases e
    exact ⟨rfl, fun X _ i x hi => by cases hi⟩
  · cases e
    exact ⟨rfl, fun X hb i x hi => ⟨g, off, rfl, ml_cells hcl hg hb i x hi⟩⟩

theorem ba_same' (a b : ByteArray) : a.toList = b.toList ↔ a = b := by
  have h := ba_beq a b
  constructor
  · intro e
    rw [beq_iff_eq.2 e] at h
    exact of_decide_eq_true h.symm
  · intro e; rw [e]

set_option maxRecDepth 100000 in
set_option maxHeartbeats 4000000 in
theorem specSameState_any (ps qs : List Bx) (va vb : Value) (w : World) (ha : BRd w va ps) (hb : BRd w vb qs) (hla : ps.length ≤ 1099511627776) (hma : ∀ b ∈ ps, b.mails.length ≤ 1099511627776) (hmb : ∀ b ∈ qs, b.mails.length ≤ 1099511627776) :
    Calls Tryz.prog 12 #[.agg #[va], .agg #[vb]] w fun e w' => e = .returned (.bool (sameS ps qs)) ∧ Below w.heap.size w w' := by
  obtain ⟨ad, cap, rfl, hrowa⟩ := ha.boxes
  obtain ⟨ad2, cap2, rfl, hrowb⟩ := hb.boxes
  have HA := Lib.hid hrowa
  have HB := Lib.hid hrowb
  have HMA := Lib.hid hma
  have HMB := Lib.hid hmb
  clear ha hb hrowa hrowb hma hmb
  obtain ⟨D, hD⟩ : ∃ D, sameS ps qs = D := ⟨_, rfl⟩
  have HD := Lib.hid hD
  rw [hD]
  clear hD
  by_cases hlen : ps.length = qs.length
  · obtain ⟨n, hn⟩ : ∃ n, ps.length = n := ⟨_, rfl⟩
    have hm : qs.length = n := by omega
    have HN := Lib.hid hn
    have HM := Lib.hid hm
    rw [hn] at hla
    rw [hn, hm]
    clear hn hm hlen
    have b1 : Below w.heap.size w ((w.alloc (.cells #[.slice ad n cap] 33)).alloc (.cells #[.slice ad2 n cap2] 33)) := ((Below.refl _ _).alloc (Nat.le_refl _) _).alloc (by simp) _
    have X2 := (Box.new w #[.slice ad n cap] 33).later (belNew _ (.cells #[.slice ad2 n cap2] 33))
    have X3 : Box ((w.alloc (.cells #[.slice ad n cap] 33)).alloc (.cells #[.slice ad2 n cap2] 33)) (w.heap.size + 1) #[.slice ad2 n cap2] 33 := by
      have := Box.new (w.alloc (.cells #[.slice ad n cap] 33)) #[.slice ad2 n cap2] 33
      rwa [show (w.alloc (.cells #[.slice ad n cap] 33)).heap.size = w.heap.size + 1 from by simp] at this
    go_enter Tryz.func12, Tryz.ntmps12
    go_wp2
    generalize (w.alloc (.cells #[.slice ad n cap] 33)).alloc (.cells #[.slice ad2 n cap2] 33) = w1 at b1 X2 X3 ⊢
    have BW := Lib.hid b1
    clear b1
    generalize w.heap.size + 1 = g3 at X3 ⊢
    generalize hg2 : w.heap.size = g2 at X2 ⊢
    clear hg2
    go_loopw [5] (fun iv wr => ∃ i : Nat, i ≤ n ∧ iv = .int .i64 (i : Int) ∧ (∀ (j : Nat) (x y : Bx), ps[j]? = some x → qs[j]? = some y → j < i → x = y) ∧ Below w1.heap.size w1 wr) (fun iv _ => n - (intOf iv).toNat)
    case atStart => exact ⟨0, by omega, rfl, fun j x y _ _ hj => by omega, Below.refl _ _⟩
    case round =>
      obtain ⟨i, hi, rfl, hU, hb⟩ := hrel
      have HU := Lib.hid hU
      clear hU
      have Y2 : wr.cell? ⟨g2, 0, none⟩ = some (.slice ad n cap) := (X2.later hb).cell 0 _ rfl
      have Y3 : wr.cell? ⟨g3, 0, none⟩ = some (.slice ad2 n cap2) := (X3.later hb).cell 0 _ rfl
      by_cases hlt : i < n
      · obtain ⟨x, hgx⟩ : ∃ x, ps[i]? = some x := ⟨_, List.getElem?_eq_getElem (by rw [HN.out]; exact hlt)⟩
        obtain ⟨y, hgy⟩ : ∃ y, qs[i]? = some y := ⟨_, List.getElem?_eq_getElem (by rw [HM.out]; exact hlt)⟩
        have bW : Below w.heap.size w wr := BW.out.trans (hb.mono BW.out.size)
        obtain ⟨gp, op, a1, n1, c1, rfl, p0, p1, p2, p3, p4, ra⟩ := HA.out _ bW i _ hgx
        obtain ⟨gq, oq, a2, n2, c2, rfl, q0, q1, q2, q3, q4, rb⟩ := HB.out _ (bW.trans ((belNew _ (.cells #[.int .i64 x.valid, .string x.user, .string x.name, .int .i64 x.next, .slice a1 n1 c1] 67)).mono bW.size)) i _ hgy
        have hmx := HMA.out x (List.mem_of_getElem? hgx)
        have hmy := HMB.out y (List.mem_of_getElem? hgy)
        have HX := Lib.hid hgx
        have HY := Lib.hid hgy
        clear hgx hgy
        obtain ⟨rfl, ra'⟩ := ra.mails
        obtain ⟨rfl, rb'⟩ := rb.mails
        have RA := Lib.hid ra'
        have RB := Lib.hid rb'
        clear ra rb ra' rb'
        have hi0 : (0 : Int) ≤ (i : Int) := by omega
        have hi1 : (i : Int) < (n : Int) := by omega
        have X6 := (Box.new wr #[.int .i64 x.valid, .string x.user, .string x.name, .int .i64 x.next, .slice a1 x.mails.length c1] 67).later (belNew _ (.cells #[.int .i64 y.valid, .string y.user, .string y.name, .int .i64 y.next, .slice a2 y.mails.length c2] 67))
        have X7 : Box ((wr.alloc (.cells #[.int .i64 x.valid, .string x.user, .string x.name, .int .i64 x.next, .slice a1 x.mails.length c1] 67)).alloc (.cells #[.int .i64 y.valid, .string y.user, .string y.name, .int .i64 y.next, .slice a2 y.mails.length c2] 67)) (wr.heap.size + 1) #[.int .i64 y.valid, .string y.user, .string y.name, .int .i64 y.next, .slice a2 y.mails.length c2] 67 := by
          have := Box.new (wr.alloc (.cells #[.int .i64 x.valid, .string x.user, .string x.name, .int .i64 x.next, .slice a1 x.mails.length c1] 67)) #[.int .i64 y.valid, .string y.user, .string y.name, .int .i64 y.next, .slice a2 y.mails.length c2] 67
          rwa [show (wr.alloc (.cells #[.int .i64 x.valid, .string x.user, .string x.name, .int .i64 x.next, .slice a1 x.mails.length c1] 67)).heap.size = wr.heap.size + 1 from by simp] at this
        have b2 : Below w1.heap.size w1 ((wr.alloc (.cells #[.int .i64 x.valid, .string x.user, .string x.name, .int .i64 x.next, .slice a1 x.mails.length c1] 67)).alloc (.cells #[.int .i64 y.valid, .string y.user, .string y.name, .int .i64 y.next, .slice a2 y.mails.length c2] 67)) := (hb.alloc hb.size _).alloc (by simp; have := hb.size; omega) _
        have Z3 := (X3.later (hb.trans ((belNew wr (.cells #[.int .i64 x.valid, .string x.user, .string x.name, .int .i64 x.next, .slice a1 x.mails.length c1] 67)).mono hb.size))).cell 0 _ rfl
        go_upto_region 8 with fail
        generalize (wr.alloc (.cells #[.int .i64 x.valid, .string x.user, .string x.name, .int .i64 x.next, .slice a1 x.mails.length c1] 67)).alloc (.cells #[.int .i64 y.valid, .string y.user, .string y.name, .int .i64 y.next, .slice a2 y.mails.length c2] 67) = w2 at b2 X6 X7 ⊢
        generalize wr.heap.size + 1 = g7 at X7 ⊢
        generalize wr.heap.size = g6 at X6 ⊢
        clear p0 p1 p2 p3 p4 q0 q1 q2 q3 q4 Y2 Y3 Z3 hb bW
        obtain ⟨x0, x1, x2, x3, x4⟩ := X6.five
        obtain ⟨y0, y1, y2, y3, y4⟩ := X7.five

        have HXB := Lib.hid X6
        have HYB := Lib.hid X7
        have HB2 := Lib.hid b2
        have hend : Below w.heap.size w w2 := BW.out.trans (b2.mono BW.out.size)
        clear X6 X7 b2
        by_cases e0 : x.valid = y.valid
        case neg =>
          go_wp2
          go_ret
          exact ⟨by rw [← HD.out, sameS_part HX.out HY.out (fun e => e0 (by rw [e]))]; rfl, hend⟩
        by_cases e1 : x.user = y.user
        case neg =>
          have e1' : ¬ (x.user.toList = y.user.toList) := fun h => e1 ((ba_same' _ _).1 h)
          go_wp2
          go_ret
          exact ⟨by rw [← HD.out, sameS_part HX.out HY.out (fun e => e1 (by rw [e]))]; rfl, hend⟩
        by_cases e2 : x.name = y.name
        case neg =>
          have e2' : ¬ (x.name.toList = y.name.toList) := fun h => e2 ((ba_same' _ _).1 h)
          go_wp2
          go_ret
          exact ⟨by rw [← HD.out, sameS_part HX.out HY.out (fun e => e2 (by rw [e]))]; rfl, hend⟩
        by_cases e3 : x.next = y.next
        case neg =>
          go_wp2
          go_ret
          exact ⟨by rw [← HD.out, sameS_part HX.out HY.out (fun e => e3 (by rw [e]))]; rfl, hend⟩
        by_cases e4 : x.mails.length = y.mails.length
        case neg =>
          have e4' : ¬ ((x.mails.length : Int) = (y.mails.length : Int)) := by omega
          go_wp2
          go_ret
          exact ⟨by rw [← HD.out, sameS_part HX.out HY.out (fun e => e4 (by rw [e]))]; rfl, hend⟩
        have HSM : Hid ((∀ (k : Nat) (m m' : Ml), x.mails[k]? = some m → y.mails[k]? = some m' → m = m') → x = y) := fun h => bx_same e0 e1 e2 e3 e4 h
        obtain ⟨n1, hm0⟩ : ∃ m, x.mails.length = m := ⟨_, rfl⟩
        have hm1 : y.mails.length = n1 := by omega
        have HM0 := Lib.hid hm0
        have HM1 := Lib.hid hm1
        rw [hm0] at HXB x4 hmx
        rw [hm1] at HYB y4
        rw [hm0, hm1]
        clear hm0 hm1 hmy e4
        go_wp2
        clear x0 x1 x2 x3 x4 y0 y1 y2 y3 y4 e0 e1 e2 e3
        go_loopw [8] (fun kv wr2 => ∃ k : Nat, k ≤ n1 ∧ kv = .int .i64 (k : Int) ∧ (∀ (j : Nat) (m m' : Ml), x.mails[j]? = some m → y.mails[j]? = some m' → j < k → m = m') ∧ Below w2.heap.size w2 wr2) (fun kv _ => n1 - (intOf kv).toNat)
        case atStart => exact ⟨0, by omega, rfl, fun j m m' _ _ hj => by omega, Below.refl _ _⟩
        case round =>
          obtain ⟨k, hk, rfl, hU2, hb⟩ := hrel
          have HU2 := Lib.hid hU2
          clear hU2
          have x4 : wr.cell? ⟨g6, 4, none⟩ = some (.slice a1 n1 c1) := (HXB.out.later hb).cell 4 _ rfl
          by_cases hlk : k < n1
          · have bW : Below w.heap.size w wr := hend.trans (hb.mono hend.size)
            have bD : Below w.heap.size w wr.drew := bW.trans ((Below.refl wr.heap.size wr).drew.mono bW.size)
            have bR : Below w2.heap.size w2 wr.drew := hb.trans ((Below.refl wr.heap.size wr).drew.mono hb.size)
            have z4 : wr.drew.cell? ⟨g6, 4, none⟩ = some (.slice a1 n1 c1) := (HXB.out.later bR).cell 4 _ rfl
            have y4 : wr.drew.cell? ⟨g7, 4, none⟩ = some (.slice a2 n1 c2) := (HYB.out.later bR).cell 4 _ rfl
            obtain ⟨m, hgm⟩ : ∃ m, x.mails[k]? = some m := ⟨_, List.getElem?_eq_getElem (by rw [HM0.out]; exact hlk)⟩
            obtain ⟨m', hgm'⟩ : ∃ m, y.mails[k]? = some m := ⟨_, List.getElem?_eq_getElem (by rw [HM1.out]; exact hlk)⟩
            obtain ⟨ga, oa, rfl, p0, p1, p2⟩ := MlRow.get RA.out bD hgm
            obtain ⟨gb, ob, rfl, q0, q1, q2⟩ := MlRow.get RB.out bD hgm'
            have HG := Lib.hid hgm
            have HG' := Lib.hid hgm'
            clear hgm hgm' hb bW
            obtain ⟨U, F, T⟩ := m
            obtain ⟨U', F', T'⟩ := m'
            simp only at p0 p1 p2 q0 q1 q2
            have hk0 : (0 : Int) ≤ (k : Int) := by omega
            have hk1 : (k : Int) < (n1 : Int) := by omega
            by_cases hsame : U = U' ∧ F = F' ∧ T = T'
            · obtain ⟨rfl, rfl, rfl⟩ := hsame
              go_wp2_with fail
              refine wp_region_held_drew (S := fun x => wr.drew = x) (by kernel_rfl) rfl (fun hHeld => ?_)
              refine takeL (i := 0) (v := .pointer (some ⟨g6, 4, none⟩)) rfl (by kernel_rfl) (by kernel_rfl) (by kernel_rfl) (fun _ _ _ h => h) (Or.inl ⟨by rfl, ?_⟩) (by assumption) ?_
              · intro x hSx; subst hSx; go_simp
              try simp only [Act.put, List.setIfInBounds_toArray, List.set_cons_zero, List.set_cons_succ]
              refine takeL (i := 1) (v := .slice (some ⟨ga, oa, none⟩) n1 c1) rfl (by kernel_rfl) (by kernel_rfl) (by kernel_rfl) (fun _ _ _ h => h) (Or.inl ⟨by rfl, ?_⟩) (by assumption) ?_
              · intro x hSx; subst hSx; go_simp
              try simp only [Act.put, List.setIfInBounds_toArray, List.set_cons_zero, List.set_cons_succ]
              refine takeL (i := 2) (v := .int .i64 (k : Int)) rfl (by kernel_rfl) (by kernel_rfl) (by kernel_rfl) (fun _ _ _ h => h) (Or.inl ⟨by rfl, ?_⟩) (by assumption) ?_
              · intro x hSx; subst hSx; go_simp
              try simp only [Act.put, List.setIfInBounds_toArray, List.set_cons_zero, List.set_cons_succ]
              refine takeL (i := 3) (v := .pointer (some ⟨ga, oa + k * 3, none⟩)) rfl (by kernel_rfl) (by kernel_rfl) (by kernel_rfl) (fun _ _ _ h => h) (Or.inl ⟨by rfl, ?_⟩) (by assumption) ?_
              · intro x hSx; subst hSx; go_simp
              try simp only [Act.put, List.setIfInBounds_toArray, List.set_cons_zero, List.set_cons_succ]
              refine takeL (i := 4) (v := .agg #[.int .i64 U, .int .i64 F, .string T]) rfl (by kernel_rfl) (by kernel_rfl) (by kernel_rfl) (fun _ _ _ h => h) (Or.inl ⟨by rfl, ?_⟩) (by assumption) ?_
              · intro x hSx; subst hSx; go_simp
              try simp only [Act.put, List.setIfInBounds_toArray, List.set_cons_zero, List.set_cons_succ]
              refine takeL (i := 5) (v := .pointer (some ⟨g7, 4, none⟩)) rfl (by kernel_rfl) (by kernel_rfl) (by kernel_rfl) (fun _ _ _ h => h) (Or.inl ⟨by rfl, ?_⟩) (by assumption) ?_
              · intro x hSx; subst hSx; go_simp
              try simp only [Act.put, List.setIfInBounds_toArray, List.set_cons_zero, List.set_cons_succ]
              refine takeL (i := 6) (v := .slice (some ⟨gb, ob, none⟩) n1 c2) rfl (by kernel_rfl) (by kernel_rfl) (by kernel_rfl) (fun _ _ _ h => h) (Or.inl ⟨by rfl, ?_⟩) (by assumption) ?_
              · intro x hSx; subst hSx; go_simp
              try simp only [Act.put, List.setIfInBounds_toArray, List.set_cons_zero, List.set_cons_succ]
              refine takeL (i := 7) (v := .int .i64 (k : Int)) rfl (by kernel_rfl) (by kernel_rfl) (by kernel_rfl) (fun _ _ _ h => h) (Or.inl ⟨by rfl, ?_⟩) (by assumption) ?_
              · intro x hSx; subst hSx; go_simp
              try simp only [Act.put, List.setIfInBounds_toArray, List.set_cons_zero, List.set_cons_succ]
              refine takeL (i := 8) (v := .pointer (some ⟨gb, ob + k * 3, none⟩)) rfl (by kernel_rfl) (by kernel_rfl) (by kernel_rfl) (fun _ _ _ h => h) (Or.inl ⟨by rfl, ?_⟩) (by assumption) ?_
              · intro x hSx; subst hSx; go_simp
              try simp only [Act.put, List.setIfInBounds_toArray, List.set_cons_zero, List.set_cons_succ]
              refine takeL (i := 9) (v := .agg #[.int .i64 U, .int .i64 F, .string T]) rfl (by kernel_rfl) (by kernel_rfl) (by kernel_rfl) (fun _ _ _ h => h) (Or.inl ⟨by rfl, ?_⟩) (by assumption) ?_
              · intro x hSx; subst hSx; go_simp
              try simp only [Act.put, List.setIfInBounds_toArray, List.set_cons_zero, List.set_cons_succ]
              refine takeL (i := 10) (v := .bool false) rfl (by kernel_rfl) (by kernel_rfl) (by kernel_rfl) (fun _ _ _ h => h) (Or.inl ⟨by rfl, ?_⟩) (by assumption) ?_
              · intro x hSx; subst hSx; go_simp
              try simp only [Act.put, List.setIfInBounds_toArray, List.set_cons_zero, List.set_cons_succ]
              refine wpAnyH_done (by kernel_rfl) ?_ _
              go_wp2
              exact ⟨⟨k + 1, by omega, by go_num, fun j m m' hj hj' hjk => by
                by_cases c : j = k
                · subst c; have h1 := HG.out; have h2 := HG'.out; rw [hj] at h1; rw [hj'] at h2; cases h1; cases h2; rfl
                · exact HU2.out j m m' hj hj' (by omega), bR⟩, by first | omega | (simp [intOf]; omega)⟩
            · have HE : Hid (D = false) := by
                rw [← HD.out]
                exact sameS_part HX.out HY.out (fun e => hsame (by
                  have h1 := HG.out; have h2 := HG'.out
                  rw [e, h2] at h1; cases h1; exact ⟨rfl, rfl, rfl⟩))
              have HNE := Lib.hid hsame
              clear hsame
              go_wp2_with fail
              refine wp_region_held_drew (S := fun x => wr.drew = x) (by kernel_rfl) rfl (fun hHeld => ?_)
              refine takeL (i := 0) (v := .pointer (some ⟨g6, 4, none⟩)) rfl (by kernel_rfl) (by kernel_rfl) (by kernel_rfl) (fun _ _ _ h => h) (Or.inl ⟨by rfl, ?_⟩) (by assumption) ?_
              · intro x hSx; subst hSx; go_simp
              try simp only [Act.put, List.setIfInBounds_toArray, List.set_cons_zero, List.set_cons_succ]
              refine takeL (i := 1) (v := .slice (some ⟨ga, oa, none⟩) n1 c1) rfl (by kernel_rfl) (by kernel_rfl) (by kernel_rfl) (fun _ _ _ h => h) (Or.inl ⟨by rfl, ?_⟩) (by assumption) ?_
              · intro x hSx; subst hSx; go_simp
              try simp only [Act.put, List.setIfInBounds_toArray, List.set_cons_zero, List.set_cons_succ]
              refine takeL (i := 2) (v := .int .i64 (k : Int)) rfl (by kernel_rfl) (by kernel_rfl) (by kernel_rfl) (fun _ _ _ h => h) (Or.inl ⟨by rfl, ?_⟩) (by assumption) ?_
              · intro x hSx; subst hSx; go_simp
              try simp only [Act.put, List.setIfInBounds_toArray, List.set_cons_zero, List.set_cons_succ]
              refine takeL (i := 3) (v := .pointer (some ⟨ga, oa + k * 3, none⟩)) rfl (by kernel_rfl) (by kernel_rfl) (by kernel_rfl) (fun _ _ _ h => h) (Or.inl ⟨by rfl, ?_⟩) (by assumption) ?_
              · intro x hSx; subst hSx; go_simp
              try simp only [Act.put, List.setIfInBounds_toArray, List.set_cons_zero, List.set_cons_succ]
              refine takeL (i := 4) (v := .agg #[.int .i64 U, .int .i64 F, .string T]) rfl (by kernel_rfl) (by kernel_rfl) (by kernel_rfl) (fun _ _ _ h => h) (Or.inl ⟨by rfl, ?_⟩) (by assumption) ?_
              · intro x hSx; subst hSx; go_simp
              try simp only [Act.put, List.setIfInBounds_toArray, List.set_cons_zero, List.set_cons_succ]
              refine takeL (i := 5) (v := .pointer (some ⟨g7, 4, none⟩)) rfl (by kernel_rfl) (by kernel_rfl) (by kernel_rfl) (fun _ _ _ h => h) (Or.inl ⟨by rfl, ?_⟩) (by assumption) ?_
              · intro x hSx; subst hSx; go_simp
              try simp only [Act.put, List.setIfInBounds_toArray, List.set_cons_zero, List.set_cons_succ]
              refine takeL (i := 6) (v := .slice (some ⟨gb, ob, none⟩) n1 c2) rfl (by kernel_rfl) (by kernel_rfl) (by kernel_rfl) (fun _ _ _ h => h) (Or.inl ⟨by rfl, ?_⟩) (by assumption) ?_
              · intro x hSx; subst hSx; go_simp
              try simp only [Act.put, List.setIfInBounds_toArray, List.set_cons_zero, List.set_cons_succ]
              refine takeL (i := 7) (v := .int .i64 (k : Int)) rfl (by kernel_rfl) (by kernel_rfl) (by kernel_rfl) (fun _ _ _ h => h) (Or.inl ⟨by rfl, ?_⟩) (by assumption) ?_
              · intro x hSx; subst hSx; go_simp
              try simp only [Act.put, List.setIfInBounds_toArray, List.set_cons_zero, List.set_cons_succ]
              refine takeL (i := 8) (v := .pointer (some ⟨gb, ob + k * 3, none⟩)) rfl (by kernel_rfl) (by kernel_rfl) (by kernel_rfl) (fun _ _ _ h => h) (Or.inl ⟨by rfl, ?_⟩) (by assumption) ?_
              · intro x hSx; subst hSx; go_simp
              try simp only [Act.put, List.setIfInBounds_toArray, List.set_cons_zero, List.set_cons_succ]
              refine takeL (i := 9) (v := .agg #[.int .i64 U', .int .i64 F', .string T']) rfl (by kernel_rfl) (by kernel_rfl) (by kernel_rfl) (fun _ _ _ h => h) (Or.inl ⟨by rfl, ?_⟩) (by assumption) ?_
              · intro x hSx; subst hSx; go_simp
              try simp only [Act.put, List.setIfInBounds_toArray, List.set_cons_zero, List.set_cons_succ]
              refine takeL (i := 10) (v := .bool true) rfl (by kernel_rfl) (by kernel_rfl) (by kernel_rfl) (fun _ _ _ h => h) (Or.inl ⟨by rfl, ?_⟩) (by assumption) ?_
              · intro x hSx; subst hSx; go_simp; exact fun h1 h2 h3 => HNE.out ⟨h1, h2, (ba_same' _ _).1 h3⟩
              try simp only [Act.put, List.setIfInBounds_toArray, List.set_cons_zero, List.set_cons_succ]
              refine wpAnyH_done (by kernel_rfl) ?_ _
              go_wp2
              go_ret
              exact ⟨by rw [HE.out]; rfl, bD⟩
          · go_wp2
            go_roundw
            case rel => exact ⟨i + 1, by omega, by go_num, fun j u v h1 h2 hj => by
              by_cases c : j = i
              · subst c
                have e1 := HX.out; have e2 := HY.out; rw [h1] at e1; rw [h2] at e2; cases e1; cases e2
                exact HSM.out (fun q m m' h3 h4 => HU2.out q m m' h3 h4 (by have := (List.getElem?_eq_some_iff.1 h3).1; have := HM0.out; omega))
              · exact HU.out j u v h1 h2 (by omega), HB2.out.trans (hb.mono HB2.out.size)⟩
            case measure => simp [intOf]; omega
      · go_wp2
        go_ret
        refine ⟨?_, BW.out.trans (hb.mono BW.out.size)⟩
        rw [← HD.out, sameS_all (HN.out.trans HM.out.symm) (fun j x y h1 h2 => HU.out j x y h1 h2 (by have := (List.getElem?_eq_some_iff.1 h1).1; have := HN.out; omega))]; rfl
  · have b1 : Below w.heap.size w ((w.alloc (.cells #[.slice ad ps.length cap] 33)).alloc (.cells #[.slice ad2 qs.length cap2] 33)) := ((Below.refl _ _).alloc (Nat.le_refl _) _).alloc (by simp) _
    have hne : ¬ ((ps.length : Int) = (qs.length : Int)) := by omega
    go_enter Tryz.func12, Tryz.ntmps12
    go_wp2
    go_ret
    exact ⟨by rw [← HD.out, sameS_len hlen]; rfl, b1⟩

end Go.Proofs.YtahebgceoidebaaGreat

/- NextsOf of either side: a RecBox of each box of which less, or nothing, is left. -/
namespace Go.Proofs.YtahebgceoidebaaGreat
open Go.RowKit

def nxR (b : Bx) : Rc := ⟨1, b.valid, 0, b.next, 0, b.user, b.name, ⟨#[]⟩⟩
def toldB (ts : List Bx) (b : Bx) : Bool := ts.any (fun y => decide (y.valid = b.valid ∧ b.next ≤ y.next))
def nxs (ts ss : List Bx) : List Rc := (ss.filter (fun b => !toldB ts b)).map nxR
theorem nxs_told {ts ss : List Bx} {i : Nat} {b : Bx} (h : ss[i]? = some b) (ht : toldB ts b = true) : nxs ts (ss.take (i + 1)) = nxs ts (ss.take i) := by
  unfold nxs
  rw [List.take_add_one, h, List.filter_append]
  simp [ht]
theorem nxs_new {ts ss : List Bx} {i : Nat} {b : Bx} (h : ss[i]? = some b) (ht : toldB ts b = false) : nxs ts (ss.take (i + 1)) = nxs ts (ss.take i) ++ [nxR b] := by
  unfold nxs
  rw [List.take_add_one, h, List.filter_append]
  simp [ht]
theorem nxs_len (ts ss : List Bx) : (nxs ts ss).length ≤ ss.length := by
  unfold nxs
  rw [List.length_map]
  exact List.length_filter_le _ _
theorem toldB_step {ts : List Bx} {k : Nat} {y b : Bx} (h : ts[k]? = some y) : toldB (ts.take (k + 1)) b = (toldB (ts.take k) b || decide (y.valid = b.valid ∧ b.next ≤ y.next)) := by
  unfold toldB
  rw [List.take_add_one, h, List.any_append]
  simp

/-- Every block but one is as it was. -/
theorem KS.app {w x y : World} {gO : Nat} {r : Option Nat} (h : KS w gO none x) (hg : x.grownBy y r) (hr : ∀ k, r = some k → k = gO ∨ w.heap.size ≤ k) : KS w gO none y :=
  ⟨Nat.le_trans h.size hg.size, fun g hg2 h1 h2 => (hg.block g (Nat.lt_of_lt_of_le hg2 h.size) (fun e => by rcases hr g e.symm with e2 | e2 <;> omega)).trans (h.same g hg2 h1 h2)⟩
theorem RBuf.ks {α : Type} {E : Enc α} {B gO : Nat} {w x : World} {v : Value} {l : List α} (h : RBuf E B w w v l) (hk : KS w gO none x) (hB : gO < B) : RBuf E B x x v l :=
  h.stay hk.size (fun k hb => hk.same k (h.own.lt k hb).2 (by have := (h.own.lt k hb).1; omega) (by simp))
theorem Box.ks {w x : World} {gO b : Nat} {cs : Array Value} {t : TypeId} (h : Box w b cs t) (hk : KS w gO none x) (hB : b ≠ gO) : Box x b cs t := h.stay (hk.same b h.lt hB (by simp))
theorem StO.ks {B gO : Nat} {w x : World} {v : Value} {bs : List Bx} {hs : List BxH} (h : StO B w v bs hs) (hk : KS w gO none x) (hB : gO < B) : StO B x v bs hs :=
  ⟨h.row.ks hk hB, h.len, fun j y b h1 h2 => ⟨(h.at' j y b h1 h2).1, (h.at' j y b h1 h2).2.ks hk hB⟩, h.far, h.apart⟩
theorem BRd.at5 {x : World} {ad : Option Addr} {n cap : Nat} {bs : List Bx} (h : BRd x (.slice ad n cap) bs) {i : Nat} {b : Bx} (hi : bs[i]? = some b) : ∃ (g off : Nat) (a : Option Addr) (m c : Nat), ad = some ⟨g, off, none⟩ ∧
    x.cell? ⟨g, off + i * 5, none⟩ = some (.int .i64 b.valid) ∧ x.cell? ⟨g, off + i * 5 + 1, none⟩ = some (.string b.user) ∧ x.cell? ⟨g, off + i * 5 + 2, none⟩ = some (.string b.name) ∧ x.cell? ⟨g, off + i * 5 + 3, none⟩ = some (.int .i64 b.next) ∧ x.cell? ⟨g, off + i * 5 + 4, none⟩ = some (.slice a m c) := by
  obtain ⟨ad', cap', e, H⟩ := h.boxes
  obtain ⟨g, off, a, m, c, e2, p0, p1, p2, p3, p4, _⟩ := H x (Below.refl _ _) i b hi
  simp only [Value.slice.injEq] at e
  rw [e.1]
  exact ⟨g, off, a, m, c, e2, p0, p1, p2, p3, p4⟩
theorem BRd.long {x : World} {v : Value} {bs : List Bx} (h : BRd x v bs) : ∃ ad cap, v = .slice ad bs.length cap := by
  obtain ⟨ad, cap, e, _⟩ := h.boxes
  exact ⟨ad, cap, e⟩

set_option maxRecDepth 100000 in
set_option maxHeartbeats 4000000 in
theorem specNextsOf_any (l : List Itm) (d : List Bool) (v vd : Value) (w : World) (h : Rows' itE w v l) (hd : Rows' boE w vd d) (hl : l.length ≤ 1048576) (hz : ∀ x ∈ l, x.2.user.size ≤ 1048576 ∧ x.2.name.size ≤ 1048576 ∧ x.2.text.size ≤ 1048576) :
    Calls Tryz.prog 26 #[v, vd] w fun e w' => ∃ v', e = .returned v' ∧ RBuf rcE w.heap.size w w' v' (nxs (stateL (wo l d)) (stateL l)) := by
  have HL : Hid (∀ x, Below w.heap.size w x → Rows' itE x v l) := fun x hx => h.later hx
  have HD : Hid (∀ x, Below w.heap.size w x → Rows' boE x vd d) := fun x hx => hd.later hx
  have HS1 : Hid (StateC 11 l) := fun v X hX => specStateOf_any l v X hX (by omega) (fun x hx => by have := hz x hx; omega)
  have HS2 : Hid (StateC 11 (wo l d)) := fun v X hX => specStateOf_any (wo l d) v X hX (by have := wo_len l d; omega) (fun x hx => by have := hz x (woT_mem hx); omega)
  have hsm := stateL_small l
  have htm := stateL_small (wo l d)
  unfold StateC at HS1 HS2
  obtain ⟨ad, cap, rfl, _⟩ := h.items
  obtain ⟨ab, cab, rfl, _⟩ := hd.bools
  generalize stateL l = ss at HS1 hsm ⊢
  have HWO := Lib.hid (fun va vb x h1 h2 => specWithout_any l d va vb x h1 h2 hl)
  generalize stateL (wo l d) = ts at HS2 htm ⊢
  have hs1 := hsm.1
  have ht1 := htm.1
  clear h hd hz hsm htm
  have I0 := RBuf.fresh rcE w
  go_enter Tryz.func26, Tryz.ntmps26
  go_wp2_with fail
  have e1 : (w.alloc (.cells #[] 47)).heap.size = w.heap.size + 1 := by simp
  change RBuf rcE w.heap.size w (w.alloc (.cells #[] 47)) _ _ at I0
  have hlt1 : w.heap.size < (w.alloc (.cells #[] 47)).heap.size := by omega
  clear e1
  generalize w.alloc (.cells #[] 47) = w1 at I0 hlt1 ⊢
  have b1 := I0.bel
  have HW1 := Lib.hid hlt1
  clear hlt1
  refine (HS1.out _ _ (HL.out _ b1)).mono ?_
  rintro e w2 ⟨v6, hs6, rfl, S6, k2⟩
  replace I0 := I0.later k2
  obtain ⟨p6, d6, rfl⟩ := S6.rd.long
  have X6 := Box.new w2 #[.slice p6 ss.length d6] 33
  have k3 := belNew w2 (.cells #[.slice p6 ss.length d6] 33)
  have Z2 := Lib.hid k2.size
  replace I0 := I0.later k3
  replace S6 := S6.later k3
  clear k2 k3 b1
  go_upto_region 3 with fail
  generalize w2.alloc (.cells #[.slice p6 ss.length d6] 33) = w3 at I0 X6 S6 ⊢
  have Z6 : Hid (w.heap.size < w2.heap.size) := by have := HW1.out; have := Z2.out; show _ < _; omega
  generalize w2.heap.size = g6 at X6 Z6 ⊢
  go_wp2_with fail
  refine (HWO.out _ _ _ (HL.out _ I0.bel) (HD.out _ I0.bel)).mono ?_
  rintro e w4 ⟨v4, rfl, R4⟩
  have k4 := R4.bel
  replace I0 := I0.later k4
  replace S6 := S6.later k4
  replace X6 := X6.later k4
  obtain ⟨a4, c4, rfl⟩ := R4.form
  clear k4
  go_wp2_with fail
  refine (HS2.out _ _ R4.rows).mono ?_
  rintro e w5 ⟨v7, hs7, rfl, S7, k5⟩
  have Z4 : Hid (w.heap.size < w4.heap.size) := by have := X6.lt; have := Z6.out; show _ < _; omega
  replace I0 := I0.later k5
  replace S6 := S6.later k5
  replace X6 := X6.later k5
  obtain ⟨p7, d7, rfl⟩ := S7.rd.long
  have X7 := Box.new w5 #[.slice p7 ts.length d7] 33
  have k6 := belNew w5 (.cells #[.slice p7 ts.length d7] 33)
  have Z5 : Hid (w.heap.size < w5.heap.size) := by have := X6.lt; have := Z6.out; show _ < _; omega
  replace I0 := I0.later k6
  replace S6 := S6.later k6
  replace X6 := X6.later k6
  replace S7 := S7.later k6
  clear k5 k6 R4 HWO
  go_upto_region 4 with fail
  generalize w5.alloc (.cells #[.slice p7 ts.length d7] 33) = w8 at I0 X6 X7 S6 S7 ⊢
  generalize w5.heap.size = g7 at X7 Z5 ⊢
  obtain ⟨gO, hgO⟩ : ∃ gO, w.heap.size = gO := ⟨_, rfl⟩
  have H8 : Hid (∀ x, KS w8 gO none x → BRd x (.slice p6 ss.length d6) ss ∧ BRd x (.slice p7 ts.length d7) ts ∧ x.cell? ⟨g6, 0, none⟩ = some (.slice p6 ss.length d6) ∧ x.cell? ⟨g7, 0, none⟩ = some (.slice p7 ts.length d7)) := fun x hx =>
    ⟨(S6.ks hx (by rw [← hgO]; exact HW1.out)).rd, (S7.ks hx (by rw [← hgO]; exact Z4.out)).rd, (X6.ks hx (by have := Z6.out; omega)).cell 0 _ rfl, (X7.ks hx (by have := Z5.out; omega)).cell 0 _ rfl⟩
  clear S6 S7 X6 X7 HL HD HS1 HS2 Z2 Z4 Z5 Z6 HW1
  rw [hgO] at I0 ⊢
  have HGO := Lib.hid hgO
  clear hgO
  obtain ⟨n, hn⟩ : ∃ n, ss.length = n := ⟨_, rfl⟩
  obtain ⟨m, hm⟩ : ∃ m, ts.length = m := ⟨_, rfl⟩
  rw [hn, hm] at H8
  have HN := Lib.hid hn
  have HM := Lib.hid hm
  rw [hn] at hs1
  rw [hm] at ht1
  clear hn hm
  go_wp2
  go_loopw [5, 8] (fun v iv wr => ∃ i : Nat, i ≤ n ∧ iv = .int .i64 (i : Int) ∧ RBuf rcE gO w wr v (nxs ts (ss.take i)) ∧ KS w8 gO none wr ∧ ∀ k, v.ownBlock = some k → k = gO ∨ w8.heap.size ≤ k) (fun _ iv _ => n - (intOf iv).toNat)
  case atStart => exact ⟨0, by omega, rfl, I0, ⟨Nat.le_refl _, fun _ _ _ _ => rfl⟩, fun k hk => by cases hk; exact .inl rfl⟩
  case round =>
    clear I0
    obtain ⟨i, hi, rfl, I, ks, ho⟩ := hrel
    have HO := Lib.hid ho
    clear ho
    obtain ⟨BS, _, y6, _⟩ := H8.out _ ks
    by_cases hlt : i < n
    · obtain ⟨b, hgb⟩ : ∃ b, ss[i]? = some b := ⟨_, List.getElem?_eq_getElem (by rw [HN.out]; exact hlt)⟩
      obtain ⟨gs, os, am, nm, cm, rfl, p0, p1, p2, p3, p4⟩ := BS.at5 hgb
      have hlu : (nxs ts (ss.take i)).length ≤ 1048576 := by have := nxs_len ts (ss.take i); rw [List.length_take] at this; omega
      have HT := Lib.hid (fun h => nxs_told (ts := ts) hgb h)
      have HW := Lib.hid (fun h => nxs_new (ts := ts) hgb h)
      obtain ⟨us, hus⟩ : ∃ us, nxs ts (ss.take i) = us := ⟨_, rfl⟩
      rw [hus] at I hlu HT HW
      have hi0 : (0 : Int) ≤ (i : Int) := by omega
      have hi1 : (i : Int) < (n : Int) := by omega
      obtain ⟨bV, bU, bN, bX, bM⟩ := b
      simp only at p0 p1 p2 p3 p4
      have XB := Box.new wr #[.int .i64 bV, .string bU, .string bN, .int .i64 bX, .slice am nm cm] 67
      have k9 := belNew wr (.cells #[.int .i64 bV, .string bU, .string bN, .int .i64 bX, .slice am nm cm] 67)
      replace I := I.later k9
      replace ks := ks.later k9
      clear BS hgb hus k9
      go_upto_region 8 with fail
      clear y6 p0 p1 p2 p3 p4
      generalize wr.alloc (.cells #[.int .i64 bV, .string bU, .string bN, .int .i64 bX, .slice am nm cm] 67) = w9 at XB I ks ⊢
      generalize wr.heap.size = g9 at XB ⊢
      obtain ⟨c0, c1, c2, c3, _⟩ := XB.five
      have HXB := Lib.hid XB
      have HI := Lib.hid I
      have HKS := Lib.hid ks
      clear XB I ks
      have T0 : toldB (ts.take 0) ⟨bV, bU, bN, bX, bM⟩ = false := rfl
      go_wp2
      go_loopw [10, 11] (fun tv kv wq => ∃ k : Nat, k ≤ m ∧ kv = .int .i64 (k : Int) ∧ tv = .bool (toldB (ts.take k) ⟨bV, bU, bN, bX, bM⟩) ∧ Below w9.heap.size w9 wq) (fun _ kv _ => m - (intOf kv).toNat)
      case atStart => exact ⟨0, by omega, rfl, by rw [T0], Below.refl _ _⟩
      case round =>
        clear T0 c0 c1 c2 c3
        obtain ⟨k, hk, rfl, rfl, bq⟩ := hrel
        obtain ⟨_, BT, _, y7⟩ := H8.out _ (HKS.out.later bq)
        obtain ⟨c0, c1, c2, c3, _⟩ := (HXB.out.later bq).five
        by_cases hlk : k < m
        · obtain ⟨y, hgy⟩ : ∃ y, ts[k]? = some y := ⟨_, List.getElem?_eq_getElem (by rw [HM.out]; exact hlk)⟩
          obtain ⟨gt, ot, at', nt, ct, rfl, t0, _, _, t3, _⟩ := BT.at5 hgy
          have HST := Lib.hid (toldB_step (b := ⟨bV, bU, bN, bX, bM⟩) hgy)
          obtain ⟨yV, yU, yN, yX, yM⟩ := y
          simp only at t0 t3 HST
          have hk0 : (0 : Int) ≤ (k : Int) := by omega
          have hk1 : (k : Int) < (m : Int) := by omega
          clear hgy BT
          generalize toldB (ts.take k) ⟨bV, bU, bN, bX, bM⟩ = T at HST ⊢
          cases T with
          | true =>
            clear t0 t3 c0 c1 c2 c3
            go_wp2
            go_quiet (fail)
            go_wp2
            go_roundw
            case rel => exact ⟨k + 1, by omega, by go_num, by rw [HST.out]; rfl, below_drewN bq _⟩
            case measure => simp [intOf]; omega
          | false =>
            by_cases hv : yV = bV
            · subst hv
              by_cases hx : bX ≤ yX
              · have HR : Hid (toldB (ts.take (k + 1)) ⟨yV, bU, bN, bX, bM⟩ = true) := by rw [HST.out]; show _ = _; rw [decide_eq_true (show yV = yV ∧ bX ≤ yX from ⟨rfl, hx⟩)]; rfl
                clear HST
                go_wp2
                go_quiet (fail)
                go_wp2
                go_roundw
                case rel => exact ⟨k + 1, by omega, by go_num, by rw [HR.out], below_drewN bq _⟩
                case measure => simp [intOf]; omega
              · have HR : Hid (toldB (ts.take (k + 1)) ⟨yV, bU, bN, bX, bM⟩ = false) := by rw [HST.out]; show _ = _; rw [decide_eq_false (fun c => hx c.2)]; rfl
                clear HST
                go_wp2
                go_quiet (fail)
                go_wp2
                go_roundw
                case rel => exact ⟨k + 1, by omega, by go_num, by rw [HR.out, decide_eq_false (by omega)], below_drewN bq _⟩
                case measure => simp [intOf]; omega
            · have hv' : (yV == bV) = false := beq_eq_false_iff_ne.2 hv
              have HR : Hid (toldB (ts.take (k + 1)) ⟨bV, bU, bN, bX, bM⟩ = false) := by rw [HST.out]; show _ = _; rw [decide_eq_false (fun c => hv c.1)]; rfl
              clear HST
              go_wp2
              go_quiet (fail)
              go_wp2
              go_roundw
              case rel => exact ⟨k + 1, by omega, by go_num, by rw [HR.out], below_drewN bq _⟩
              case measure => simp [intOf]; omega
        · have hkm : Hid (ts.take k = ts) := by
            show ts.take k = ts
            exact List.take_of_length_le (by rw [HM.out]; omega)
          rw [hkm.out]
          clear BT hkm
          generalize hT : toldB ts ⟨bV, bU, bN, bX, bM⟩ = T
          cases T with
          | true =>
            have HE := Lib.hid (HT.out hT)
            clear hT HT HW c0 c1 c2 c3
            go_wp2
            exact ⟨⟨i + 1, by omega, by simp, by rw [HE.out]; exact HI.out.later bq, HKS.out.later bq, HO.out⟩, by first | omega | (simp [intOf]; omega)⟩
          | false =>
            have HE := Lib.hid (HW.out hT)
            unfold nxR at HE
            have J := HI.out.later bq
            have HR6 := Lib.hid (J.alloc (.cells #[.int .i64 1, .int .i64 bV, .int .i64 0, .int .i64 bX, .int .i64 0, .string bU, .string bN, .string ⟨#[]⟩] 47))
            have HL6 := Lib.hid (RBuf.lit1 rcE wr ⟨1, bV, 0, bX, 0, bU, bN, ⟨#[]⟩⟩)
            have HKA := Lib.hid ((HKS.out.later bq).later (belNew wr (.cells #[.int .i64 1, .int .i64 bV, .int .i64 0, .int .i64 bX, .int .i64 0, .string bU, .string bN, .string ⟨#[]⟩] 47)))
            clear hT HT HW J
            go_wp2_with (at_builtin; refine wpList_append_rows rfl _ _ rcE rfl gO _ _ rfl HR6.out.here wr.heap.size _ [⟨1, bV, 0, bX, 0, bU, bN, ⟨#[]⟩⟩] rfl HL6.out (by show _ * 89 ≤ _; simp only [List.length_cons, List.length_nil]; omega) ?_; intro v6 w6 r6 g6 at6)
            exact ⟨⟨i + 1, by omega, by simp, by rw [HE.out]; exact ⟨r6.own, HR6.out.bel.grown g6 HR6.out.le (fun k hk => (HR6.out.own.lt k hk).1), r6.le⟩, HKA.out.app g6 HO.out, fun k hk => by
              rcases at6 with e | e
              · exact HO.out k (e ▸ hk)
              · rw [e] at hk; cases hk; exact .inr HKA.out.size⟩, by first | omega | (simp [intOf]; omega)⟩
    · clear BS
      go_wp2
      go_ret
      refine ⟨_, rfl, ?_⟩
      have hil : ss.take i = ss := List.take_of_length_le (by rw [HN.out]; omega)
      rw [hil] at I
      rw [HGO.out]
      exact I

end Go.Proofs.YtahebgceoidebaaGreat

/- What records tell, gathered box by box, plainly. -/
namespace Go.Proofs.YtahebgceoidebaaGreat

/-- What the records of one box tell, as far as they came. -/
structure Tb where
  named : Itm
  next : Int
  adds : Int → Option Itm
  flags : Int → Option Itm
def Tb.nil : Tb := ⟨(0, Rc.nil), 0, fun _ => none, fun _ => none⟩

/-- The number of what is there, 0 without it. -/
def sqO (o : Option Itm) : Int := match o with | some y => y.1 | none => 0
/-- The latest one of a mail. -/
def keepL (f : Int → Option Itm) (x : Itm) : Int → Option Itm := if sqO (f x.2.uid) < x.1 then (fun u => if u = x.2.uid then some x else f u) else f
theorem keepL_lt {f : Int → Option Itm} {x : Itm} (h : sqO (f x.2.uid) < x.1) : keepL f x = fun u => if u = x.2.uid then some x else f u := if_pos h
theorem keepL_ge {f : Int → Option Itm} {x : Itm} (h : ¬ sqO (f x.2.uid) < x.1) : keepL f x = f := if_neg h
/-- One record more. -/
def takeT (t : Tb) (x : Itm) : Tb :=
  if x.2.kind = 1 then ⟨if aheadB (fun y => y.2.next) x t.named then x else t.named, max t.next x.2.next, t.adds, t.flags⟩
  else if x.2.kind = 3 then ⟨t.named, max t.next (x.2.uid + 1), keepL t.adds x, t.flags⟩
  else if x.2.kind = 4 then ⟨t.named, t.next, t.adds, keepL t.flags x⟩
  else if x.2.kind = 5 then ⟨t.named, max t.next (x.2.uid + 1), t.adds, t.flags⟩
  else t

def fmT (l : List Itm) (v : Int) : Tb := ⟨(tellO v l).getD (0, Rc.nil), mostOf 0 (nextK v) l, fun u => bestR 3 v u l, fun u => bestR 4 v u l⟩
open Classical in
noncomputable def toldT (l : List Itm) (v : Int) : Option Tb := if ∃ x ∈ l, x.2.valid = v then some (fmT l v) else none

theorem bestO_snoc (k : Itm → Int) (p : Itm → Bool) (l : List Itm) (x : Itm) : bestO k p (l ++ [x]) = bestStep k p (bestO k p l) x := by
  unfold bestO; rw [List.foldl_append]; rfl
theorem mostOf_snoc (b : Int) (f : Itm → Int) (l : List Itm) (x : Itm) : mostOf b f (l ++ [x]) = if mostOf b f l < f x then f x else mostOf b f l := by
  unfold mostOf; rw [List.foldl_append]; rfl
theorem mostOf_ge (b : Int) (f : Itm → Int) (l : List Itm) : b ≤ mostOf b f l := (mostFold f l b).1
theorem bestStep_out {k : Itm → Int} {p : Itm → Bool} {o : Option Itm} {x : Itm} (h : p x = false) : bestStep k p o x = o := by
  unfold bestStep; rw [h]; rfl
theorem bestStep_in {k : Itm → Int} {p : Itm → Bool} {x : Itm} (h : p x = true) : bestStep k p none x = some x := by
  unfold bestStep; rw [if_pos h]
theorem bestStep_more {k : Itm → Int} {p : Itm → Bool} {x y : Itm} (h : p x = true) : bestStep k p (some y) x = if aheadB k x y then some x else some y := by
  unfold bestStep; rw [if_pos h]

/-- Without a record of it nothing is told of a box. -/
theorem fmT_none {l : List Itm} {v : Int} (h : ¬ ∃ x ∈ l, x.2.valid = v) : fmT l v = Tb.nil := by
  have hb : ∀ (k : Itm → Int) (p : Itm → Bool), (∀ x, p x = true → x.2.valid = v) → bestO k p l = none := by
    intro k p hp
    have hI := bestO_I k p l
    cases e : bestO k p l with
    | none => rfl
    | some y =>
      rw [e] at hI
      exact absurd ⟨y, hI.1, hp y hI.2.1⟩ h
  have hm : mostOf 0 (nextK v) l = 0 := by
    have : ∀ (m : List Itm), (∀ x ∈ m, nextK v x = 0) → mostOf 0 (nextK v) m = 0 := by
      intro m
      unfold mostOf
      induction m with
      | nil => intro _; rfl
      | cons x m ih =>
        intro hx
        rw [List.foldl_cons, hx x (by simp)]
        exact ih (fun y hy => hx y (List.mem_cons_of_mem _ hy))
    refine this l (fun x hx => ?_)
    unfold nextK
    rw [if_neg (fun e => h ⟨x, hx, e⟩)]
  unfold fmT Tb.nil
  congr 1
  · unfold tellO
    rw [hb _ _ (fun x hx => (of_decide_eq_true hx).2)]; rfl
  · funext u
    exact hb _ _ (fun x hx => (of_decide_eq_true hx).2.1)
  · funext u
    exact hb _ _ (fun x hx => (of_decide_eq_true hx).2.1)
theorem toldT_getD (l : List Itm) (v : Int) : (toldT l v).getD Tb.nil = fmT l v := by
  unfold toldT
  by_cases h : ∃ x ∈ l, x.2.valid = v
  · rw [if_pos h]; rfl
  · rw [if_neg h, fmT_none h]; rfl
theorem toldT_some {l : List Itm} {v : Int} {t : Tb} (h : toldT l v = some t) : t = fmT l v := by
  unfold toldT at h
  split at h
  · cases h; rfl
  · cases h

theorem fmT_other {l : List Itm} {x : Itm} {v : Int} (hv : x.2.valid ≠ v) : fmT (l ++ [x]) v = fmT l v := by
  have h0 : nextK v x = 0 := by unfold nextK; rw [if_neg hv]
  unfold fmT
  congr 1
  · unfold tellO
    rw [bestO_snoc, bestStep_out (decide_eq_false (fun c => hv c.2))]
  · rw [mostOf_snoc, h0, if_neg (by have := mostOf_ge 0 (nextK v) l; omega)]
  · funext u; unfold bestR; rw [bestO_snoc, bestStep_out (decide_eq_false (fun c => hv c.2.1))]
  · funext u; unfold bestR; rw [bestO_snoc, bestStep_out (decide_eq_false (fun c => hv c.2.1))]

theorem best_keep {kind v : Int} {l : List Itm} {x : Itm} (hv : x.2.valid = v) (hk : x.2.kind = kind) (hs : 1 ≤ x.1) : (fun u => bestR kind v u (l ++ [x])) = keepL (fun u => bestR kind v u l) x := by
  funext u
  by_cases hu : x.2.uid = u
  · have hp : decide (x.2.kind = kind ∧ x.2.valid = v ∧ x.2.uid = u) = true := decide_eq_true ⟨hk, hv, hu⟩
    have e0 : bestR kind v u (l ++ [x]) = bestStep (fun _ => 0) (fun x' => decide (x'.2.kind = kind ∧ x'.2.valid = v ∧ x'.2.uid = u)) (bestR kind v u l) x := bestO_snoc _ _ _ _
    show bestR kind v u (l ++ [x]) = _
    rw [e0]
    cases e : bestR kind v u l with
    | none =>
      have h1 : sqO ((fun u => bestR kind v u l) x.2.uid) < x.1 := by
        show sqO (bestR kind v x.2.uid l) < x.1
        rw [hu, e]; show (0 : Int) < x.1; omega
      rw [bestStep_in hp, keepL_lt h1]
      simp [hu]
    | some y =>
      rw [bestStep_more hp]
      have h0 : sqO ((fun u => bestR kind v u l) x.2.uid) = y.1 := by
        show sqO (bestR kind v x.2.uid l) = y.1
        rw [hu, e]; rfl
      by_cases c : y.1 < x.1
      · rw [keepL_lt (by rw [h0]; exact c), if_pos (by unfold aheadB; exact decide_eq_true (.inr ⟨rfl, c⟩))]; simp [hu]
      · rw [keepL_ge (by rw [h0]; exact c), if_neg (fun h => by unfold aheadB at h; have := of_decide_eq_true h; dsimp only at this; omega)]; exact e.symm
  · have e : bestR kind v u (l ++ [x]) = bestR kind v u l := by
      show bestO _ _ _ = _
      rw [bestO_snoc, bestStep_out (decide_eq_false (fun c => hu c.2.2))]; rfl
    show bestR kind v u (l ++ [x]) = _
    rw [e]
    unfold keepL
    split
    · show _ = if u = x.2.uid then some x else bestR kind v u l
      rw [if_neg (fun c => hu c.symm)]
    · rfl
theorem best_skip {kind v : Int} {l : List Itm} {x : Itm} (hk : x.2.kind ≠ kind) : (fun u => bestR kind v u (l ++ [x])) = fun u => bestR kind v u l := by
  funext u
  show bestO _ _ _ = _
  rw [bestO_snoc, bestStep_out (decide_eq_false (fun c => hk c.1))]; rfl
theorem tell_skip {v : Int} {l : List Itm} {x : Itm} (hk : x.2.kind ≠ 1) : tellO v (l ++ [x]) = tellO v l := by
  unfold tellO
  rw [bestO_snoc, bestStep_out (decide_eq_false (fun c => hk c.1))]
theorem most_max {v : Int} {l : List Itm} {x : Itm} : mostOf 0 (nextK v) (l ++ [x]) = max (mostOf 0 (nextK v) l) (nextK v x) := by
  rw [mostOf_snoc]
  split <;> omega
/-- One record more, told. -/
theorem fmT_step {l : List Itm} {x : Itm} (hs : 1 ≤ x.1) (hok : x.2.ok) : fmT (l ++ [x]) x.2.valid = takeT (fmT l x.2.valid) x := by
  have hge := mostOf_ge 0 (nextK x.2.valid) l
  unfold takeT
  by_cases h1 : x.2.kind = 1
  · rw [if_pos h1]
    have hn : 1 ≤ x.2.next := by
      have h := hok.2.2.1
      rw [if_pos h1] at h
      exact h.2.2.1
    have hnk : nextK x.2.valid x = x.2.next := by unfold nextK; rw [if_pos rfl, if_pos h1]
    unfold fmT
    rw [most_max, hnk, best_skip (by omega), best_skip (by omega)]
    congr 1
    unfold tellO
    rw [bestO_snoc]
    cases e : bestO (fun y => y.2.next) (fun y => decide (y.2.kind = 1 ∧ y.2.valid = x.2.valid)) l with
    | none =>
      rw [bestStep_in (decide_eq_true ⟨h1, rfl⟩)]
      simp only [Option.getD]
      rw [if_pos (by unfold aheadB; exact decide_eq_true (.inl (by show (0 : Int) < x.2.next; omega)))]
    | some y =>
      rw [bestStep_more (decide_eq_true ⟨h1, rfl⟩)]
      by_cases c : aheadB (fun y => y.2.next) x y = true
      · rw [if_pos c]
        show x = if aheadB (fun y => y.2.next) x y = true then x else y
        rw [if_pos c]
      · rw [if_neg c]
        show y = if aheadB (fun y => y.2.next) x y = true then x else y
        rw [if_neg c]
  rw [if_neg h1]
  by_cases h3 : x.2.kind = 3
  · rw [if_pos h3]
    have hnk : nextK x.2.valid x = x.2.uid + 1 := by unfold nextK; rw [if_pos rfl, if_neg h1, if_pos (.inl h3)]
    unfold fmT
    rw [most_max, hnk, best_keep rfl h3 hs, best_skip (kind := 4) (by omega), tell_skip h1]
  rw [if_neg h3]
  by_cases h4 : x.2.kind = 4
  · rw [if_pos h4]
    have hnk : nextK x.2.valid x = 0 := by unfold nextK; rw [if_pos rfl, if_neg h1, if_neg (by omega)]
    unfold fmT
    rw [most_max, hnk, best_keep rfl h4 hs, best_skip (kind := 3) (by omega), tell_skip h1, Int.max_eq_left hge]
  rw [if_neg h4]
  by_cases h5 : x.2.kind = 5
  · rw [if_pos h5]
    have hnk : nextK x.2.valid x = x.2.uid + 1 := by unfold nextK; rw [if_pos rfl, if_neg h1, if_pos (.inr h5)]
    unfold fmT
    rw [most_max, hnk, best_skip (kind := 3) (by omega), best_skip (kind := 4) (by omega), tell_skip h1]
  rw [if_neg h5]
  have hnk : nextK x.2.valid x = 0 := by unfold nextK; rw [if_pos rfl, if_neg h1, if_neg (by omega)]
  unfold fmT
  rw [most_max, hnk, best_skip (kind := 3) (by omega), best_skip (kind := 4) (by omega), tell_skip h1, Int.max_eq_left hge]

theorem toldT_step {l : List Itm} {x : Itm} (hs : 1 ≤ x.1) (hok : x.2.ok) (v : Int) : toldT (l ++ [x]) v = if v = x.2.valid then some (takeT ((toldT l v).getD Tb.nil) x) else toldT l v := by
  by_cases c : v = x.2.valid
  · subst c
    rw [if_pos rfl, toldT_getD]
    unfold toldT
    rw [if_pos ⟨x, by simp, rfl⟩, fmT_step hs hok]
  · rw [if_neg c]
    have hi : (∃ y ∈ l ++ [x], y.2.valid = v) ↔ ∃ y ∈ l, y.2.valid = v := by
      constructor
      · rintro ⟨y, hy, e⟩
        rcases List.mem_append.1 hy with h | h
        · exact ⟨y, h, e⟩
        · simp at h; subst h; exact absurd e.symm c
      · rintro ⟨y, hy, e⟩; exact ⟨y, List.mem_append_left _ hy, e⟩
    unfold toldT
    rw [fmT_other (fun e => c e.symm)]
    by_cases d : ∃ y ∈ l, y.2.valid = v
    · rw [if_pos d, if_pos (hi.2 d)]
    · rw [if_neg d, if_neg (fun h => d (hi.1 h))]
theorem toldT_nil (v : Int) : toldT [] v = none := by unfold toldT; rw [if_neg (by simp)]

end Go.Proofs.YtahebgceoidebaaGreat

/- What is gone is taken away, plainly. -/
namespace Go.Proofs.YtahebgceoidebaaGreat
open Classical

def dropB (k : List Itm) (v : Int) : Prop := ∃ x ∈ k, x.2.kind = 2 ∧ x.2.valid = v
def goneB (k : List Itm) (v u : Int) : Prop := ∃ x ∈ k, x.2.kind = 5 ∧ x.2.valid = v ∧ x.2.uid = u
noncomputable def lessA (k : List Itm) (v : Int) (t : Tb) : Tb := ⟨t.named, t.next, fun u => if goneB k v u then none else t.adds u, t.flags⟩
noncomputable def delT (T : Int → Option Tb) (k : List Itm) (v : Int) : Option Tb := if dropB k v then none else (T v).map (lessA k v)
/-- A mail taken away. -/
def lessM (u : Int) (t : Tb) : Tb := ⟨t.named, t.next, fun q => if q = u then none else t.adds q, t.flags⟩

theorem dropB_snoc {k : List Itm} {x : Itm} {v : Int} : dropB (k ++ [x]) v ↔ dropB k v ∨ (x.2.kind = 2 ∧ x.2.valid = v) := by
  unfold dropB
  constructor
  · rintro ⟨y, hy, h⟩
    rcases List.mem_append.1 hy with h1 | h1
    · exact .inl ⟨y, h1, h⟩
    · simp at h1; subst h1; exact .inr h
  · rintro (⟨y, hy, h⟩ | h)
    · exact ⟨y, List.mem_append_left _ hy, h⟩
    · exact ⟨x, by simp, h⟩
theorem goneB_snoc {k : List Itm} {x : Itm} {v u : Int} : goneB (k ++ [x]) v u ↔ goneB k v u ∨ (x.2.kind = 5 ∧ x.2.valid = v ∧ x.2.uid = u) := by
  unfold goneB
  constructor
  · rintro ⟨y, hy, h⟩
    rcases List.mem_append.1 hy with h1 | h1
    · exact .inl ⟨y, h1, h⟩
    · simp at h1; subst h1; exact .inr h
  · rintro (⟨y, hy, h⟩ | h)
    · exact ⟨y, List.mem_append_left _ hy, h⟩
    · exact ⟨x, by simp, h⟩
theorem lessA_snoc {k : List Itm} {x : Itm} {v : Int} (h : ¬ (x.2.kind = 5 ∧ x.2.valid = v)) : lessA (k ++ [x]) v = lessA k v := by
  funext t
  unfold lessA
  congr 1
  funext u
  have e : goneB (k ++ [x]) v u ↔ goneB k v u := by
    rw [goneB_snoc]
    exact ⟨fun c => c.elim id (fun c => absurd ⟨c.1, c.2.1⟩ h), .inl⟩
  by_cases c : goneB k v u
  · rw [if_pos c, if_pos (e.2 c)]
  · rw [if_neg c, if_neg (fun d => c (e.1 d))]
theorem lessA_more {k : List Itm} {x : Itm} (h : x.2.kind = 5) (t : Tb) : lessA (k ++ [x]) x.2.valid t = lessM x.2.uid (lessA k x.2.valid t) := by
  unfold lessA lessM
  congr 1
  funext u
  have e := goneB_snoc (k := k) (x := x) (v := x.2.valid) (u := u)
  by_cases c : u = x.2.uid
  · rw [if_pos c, if_pos (e.2 (.inr ⟨h, rfl, c.symm⟩))]
  · rw [if_neg c]
    show _ = if goneB k x.2.valid u then none else t.adds u
    by_cases d : goneB k x.2.valid u
    · rw [if_pos d, if_pos (e.2 (.inl d))]
    · rw [if_neg d, if_neg (fun q => (e.1 q).elim d (fun q => c q.2.2.symm))]
theorem delT_nil (T : Int → Option Tb) (v : Int) : delT T [] v = T v := by
  have h1 : ¬ dropB [] v := by unfold dropB; simp
  have h2 : ∀ t, lessA [] v t = t := fun t => by
    unfold lessA
    have : (fun u => if goneB [] v u then none else t.adds u) = t.adds := by
      funext u
      rw [if_neg (by unfold goneB; simp)]
    rw [this]
  unfold delT
  rw [if_neg h1]
  cases T v with
  | none => rfl
  | some t => simp [h2]
theorem delT_drop {T : Int → Option Tb} {k : List Itm} {x : Itm} (h : x.2.kind = 2) (v : Int) : delT T (k ++ [x]) v = if v = x.2.valid then none else delT T k v := by
  unfold delT
  rw [lessA_snoc (by omega)]
  by_cases c : v = x.2.valid
  · rw [if_pos c, if_pos (dropB_snoc.2 (.inr ⟨h, c.symm⟩))]
  · rw [if_neg c]
    by_cases d : dropB k v
    · rw [if_pos d, if_pos (dropB_snoc.2 (.inl d))]
    · rw [if_neg d, if_neg (fun q => (dropB_snoc.1 q).elim d (fun q => c q.2.symm))]
theorem delT_gone {T : Int → Option Tb} {k : List Itm} {x : Itm} (h : x.2.kind = 5) (v : Int) : delT T (k ++ [x]) v = if v = x.2.valid then (delT T k v).map (lessM x.2.uid) else delT T k v := by
  have hd : dropB (k ++ [x]) v ↔ dropB k v := ⟨fun q => (dropB_snoc.1 q).elim id (fun q => by omega), fun q => dropB_snoc.2 (.inl q)⟩
  unfold delT
  by_cases c : v = x.2.valid
  · subst c
    rw [if_pos rfl]
    by_cases d : dropB k x.2.valid
    · rw [if_pos d, if_pos (hd.2 d)]; rfl
    · rw [if_neg d, if_neg (fun q => d (hd.1 q)), Option.map_map]
      congr 1
      funext t
      exact lessA_more h t
  · rw [if_neg c, lessA_snoc (fun q => c q.2.symm)]
    by_cases d : dropB k v
    · rw [if_pos d, if_pos (hd.2 d)]
    · rw [if_neg d, if_neg (fun q => d (hd.1 q))]
theorem delT_other {T : Int → Option Tb} {k : List Itm} {x : Itm} (h : x.2.kind ≠ 2) (h5 : x.2.kind ≠ 5) (v : Int) : delT T (k ++ [x]) v = delT T k v := by
  have hd : dropB (k ++ [x]) v ↔ dropB k v := ⟨fun q => (dropB_snoc.1 q).elim id (fun q => absurd q.1 h), fun q => dropB_snoc.2 (.inl q)⟩
  unfold delT
  rw [lessA_snoc (fun q => h5 q.1)]
  by_cases d : dropB k v
  · rw [if_pos d, if_pos (hd.2 d)]
  · rw [if_neg d, if_neg (fun q => d (hd.1 q))]
theorem delT_out {T : Int → Option Tb} {k : List Itm} {x : Itm} (h : delT T k x.2.valid = none) (v : Int) : delT T (k ++ [x]) v = delT T k v := by
  by_cases h2 : x.2.kind = 2
  · rw [delT_drop h2]
    by_cases c : v = x.2.valid
    · subst c; rw [if_pos rfl, h]
    · rw [if_neg c]
  by_cases h5 : x.2.kind = 5
  · rw [delT_gone h5]
    by_cases c : v = x.2.valid
    · subst c; rw [if_pos rfl, h]; rfl
    · rw [if_neg c]
  exact delT_other h2 h5 v

end Go.Proofs.YtahebgceoidebaaGreat
