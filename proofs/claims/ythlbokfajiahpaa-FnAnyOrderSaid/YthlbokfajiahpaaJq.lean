/- Texts of our own, joined. -/
import Derived.Test.YthlbokfajiahpaaJl
import Derived.Test.YthlbokfajiahpaaJp
import Derived.Test.YthlbokfajiahpaaJd
import Derived.Test.YthlbokfajiahpaaJf
import Derived.Laws.StructEq
import Derived.Test.YthlbokfajiahpaaJi
import Derived.WalkSpells
import Derived.WalkSmall
import Derived.Test.YthlbokfajiahpaaJk
/- States held against each other: the model's SameState. -/
namespace Go.Proofs.Ythlbokfajiahpaa
open Go.RowKit

theorem Box.five {w : World} {b : Nat} {u0 u1 u2 u3 u4 : Value} {t : TypeId} (h : Box w b #[u0, u1, u2, u3, u4] t) : w.cell? ⟨b, 0, none⟩ = some u0 ∧ w.cell? ⟨b, 1, none⟩ = some u1 ∧ w.cell? ⟨b, 2, none⟩ = some u2 ∧ w.cell? ⟨b, 3, none⟩ = some u3 ∧ w.cell? ⟨b, 4, none⟩ = some u4 :=
  ⟨h.cell 0 _ rfl, h.cell 1 _ rfl, h.cell 2 _ rfl, h.cell 3 _ rfl, h.cell 4 _ rfl⟩
/-- Mails that can be read, ps a loop reads them. -/
def MlRow (w : World) (ad : Option Addr) (l : List Ml) : Prop := ∀ X, Below w.heap.size w X → ∀ i m, l[i]? = some m → ∃ g off, ad = some ⟨g, off, none⟩ ∧ X.cell? ⟨g, off + i * 3, none⟩ = some (.int .i64 m.uid) ∧ X.cell? ⟨g, off + i * 3 + 1, none⟩ = some (.int .i64 m.flags) ∧ X.cell? ⟨g, off + i * 3 + 2, none⟩ = some (.string m.text)
theorem MlRow.get {w : World} {ad : Option Addr} {l : List Ml} (h : MlRow w ad l) {X : World} (hb : Below w.heap.size w X) {i : Nat} {m : Ml} (hi : l[i]? = some m) : ∃ g off, ad = some ⟨g, off, none⟩ ∧ X.cell? ⟨g, off + i * 3, none⟩ = some (.int .i64 m.uid) ∧ X.cell? ⟨g, off + i * 3 + 1, none⟩ = some (.int .i64 m.flags) ∧ X.cell? ⟨g, off + i * 3 + 2, none⟩ = some (.string m.text) := h X hb i m hi
theorem Rows'.mails {w : World} {a : Option Addr} {n c : Nat} {l : List Ml} (h : Rows' mlE w (.slice a n c) l) : n = l.length ∧ MlRow w a l := by
  rcases h.ways with ⟨rfl, a, c, e⟩ | ⟨hne, g, off, c, e, hc, hg, hcl⟩
  · cases e
    exact ⟨rfl, fun X _ i x hi => by cases hi⟩
  · cases e
    exact ⟨rfl, fun X hb i x hi => ⟨g, off, rfl, ml_cells hcl hg hb i x hi⟩⟩

theorem ba_same' (a b : ByteArray) : a.toList = b.toList ↔ a = b := by
  have h := ba_beq a b
  constructor
  · intro e
    rw [beq_iff_eq.2 e] at h
    exact of_decide_eq_true h.symm
  · intro e; rw [e]

set_option maxRecDepth 100000 in
set_option maxHeartbeats 4000000 in
theorem specSameState_any (ps qs : List Bx) (va vb : Value) (w : World) (ha : BRd w va ps) (hb : BRd w vb qs) (hla : ps.length ≤ 1099511627776) (hma : ∀ b ∈ ps, b.mails.length ≤ 1099511627776) (hmb : ∀ b ∈ qs, b.mails.length ≤ 1099511627776) :
    Calls Try.prog 41 #[.agg #[va], .agg #[vb]] w fun e w' => e = .returned (.bool (sameS ps qs)) ∧ Below w.heap.size w w' := by
  obtain ⟨ad, cap, rfl, hrowa⟩ := ha.boxes
  obtain ⟨ad2, cap2, rfl, hrowb⟩ := hb.boxes
  have HA := Lib.hid hrowa
  have HB := Lib.hid hrowb
  have HMA := Lib.hid hma
  have HMB := Lib.hid hmb
  clear ha hb hrowa hrowb hma hmb
  obtain ⟨D, hD⟩ : ∃ D, sameS ps qs = D := ⟨_, rfl⟩
  have HD := Lib.hid hD
  rw [hD]
  clear hD
  by_cases hlen : ps.length = qs.length
  · obtain ⟨n, hn⟩ : ∃ n, ps.length = n := ⟨_, rfl⟩
    have hm : qs.length = n := by omega
    have HN := Lib.hid hn
    have HM := Lib.hid hm
    rw [hn] at hla
    rw [hn, hm]
    clear hn hm hlen
    have b1 : Below w.heap.size w ((w.alloc (.cells #[.slice ad n cap] 48)).alloc (.cells #[.slice ad2 n cap2] 48)) := ((Below.refl _ _).alloc (Nat.le_refl _) _).alloc (by simp) _
    have X2 := (Box.new w #[.slice ad n cap] 48).later (belNew _ (.cells #[.slice ad2 n cap2] 48))
    have X3 : Box ((w.alloc (.cells #[.slice ad n cap] 48)).alloc (.cells #[.slice ad2 n cap2] 48)) (w.heap.size + 1) #[.slice ad2 n cap2] 48 := by
      have := Box.new (w.alloc (.cells #[.slice ad n cap] 48)) #[.slice ad2 n cap2] 48
      rwa [show (w.alloc (.cells #[.slice ad n cap] 48)).heap.size = w.heap.size + 1 from by simp] at this
    go_enter Try.func41, Try.ntmps41
    go_wp2
    generalize (w.alloc (.cells #[.slice ad n cap] 48)).alloc (.cells #[.slice ad2 n cap2] 48) = w1 at b1 X2 X3 ⊢
    have BW := Lib.hid b1
    clear b1
    generalize w.heap.size + 1 = g3 at X3 ⊢
    generalize hg2 : w.heap.size = g2 at X2 ⊢
    clear hg2
    go_loopw [5] (fun iv wr => ∃ i : Nat, i ≤ n ∧ iv = .int .i64 (i : Int) ∧ (∀ (j : Nat) (x y : Bx), ps[j]? = some x → qs[j]? = some y → j < i → x = y) ∧ Below w1.heap.size w1 wr) (fun iv _ => n - (intOf iv).toNat)
    case atStart => exact ⟨0, by omega, rfl, fun j x y _ _ hj => by omega, Below.refl _ _⟩
    case round =>
      obtain ⟨i, hi, rfl, hU, hb⟩ := hrel
      have HU := Lib.hid hU
      clear hU
      have Y2 : wr.cell? ⟨g2, 0, none⟩ = some (.slice ad n cap) := (X2.later hb).cell 0 _ rfl
      have Y3 : wr.cell? ⟨g3, 0, none⟩ = some (.slice ad2 n cap2) := (X3.later hb).cell 0 _ rfl
      by_cases hlt : i < n
      · obtain ⟨x, hgx⟩ : ∃ x, ps[i]? = some x := ⟨_, List.getElem?_eq_getElem (by rw [HN.out]; exact hlt)⟩
        obtain ⟨y, hgy⟩ : ∃ y, qs[i]? = some y := ⟨_, List.getElem?_eq_getElem (by rw [HM.out]; exact hlt)⟩
        have bW : Below w.heap.size w wr := BW.out.trans (hb.mono BW.out.size)
        obtain ⟨gp, op, a1, n1, c1, rfl, p0, p1, p2, p3, p4, ra⟩ := HA.out _ bW i _ hgx
        obtain ⟨gq, oq, a2, n2, c2, rfl, q0, q1, q2, q3, q4, rb⟩ := HB.out _ (bW.trans ((belNew _ (.cells #[.int .i64 x.valid, .string x.user, .string x.name, .int .i64 x.next, .slice a1 n1 c1] 55)).mono bW.size)) i _ hgy
        have hmx := HMA.out x (List.mem_of_getElem? hgx)
        have hmy := HMB.out y (List.mem_of_getElem? hgy)
        have HX := Lib.hid hgx
        have HY := Lib.hid hgy
        clear hgx hgy
        obtain ⟨rfl, ra'⟩ := ra.mails
        obtain ⟨rfl, rb'⟩ := rb.mails
        have RA := Lib.hid ra'
        have RB := Lib.hid rb'
        clear ra rb ra' rb'
        have hi0 : (0 : Int) ≤ (i : Int) := by omega
        have hi1 : (i : Int) < (n : Int) := by omega
        have X6 := (Box.new wr #[.int .i64 x.valid, .string x.user, .string x.name, .int .i64 x.next, .slice a1 x.mails.length c1] 55).later (belNew _ (.cells #[.int .i64 y.valid, .string y.user, .string y.name, .int .i64 y.next, .slice a2 y.mails.length c2] 55))
        have X7 : Box ((wr.alloc (.cells #[.int .i64 x.valid, .string x.user, .string x.name, .int .i64 x.next, .slice a1 x.mails.length c1] 55)).alloc (.cells #[.int .i64 y.valid, .string y.user, .string y.name, .int .i64 y.next, .slice a2 y.mails.length c2] 55)) (wr.heap.size + 1) #[.int .i64 y.valid, .string y.user, .string y.name, .int .i64 y.next, .slice a2 y.mails.length c2] 55 := by
          have := Box.new (wr.alloc (.cells #[.int .i64 x.valid, .string x.user, .string x.name, .int .i64 x.next, .slice a1 x.mails.length c1] 55)) #[.int .i64 y.valid, .string y.user, .string y.name, .int .i64 y.next, .slice a2 y.mails.length c2] 55
          rwa [show (wr.alloc (.cells #[.int .i64 x.valid, .string x.user, .string x.name, .int .i64 x.next, .slice a1 x.mails.length c1] 55)).heap.size = wr.heap.size + 1 from by simp] at this
        have b2 : Below w1.heap.size w1 ((wr.alloc (.cells #[.int .i64 x.valid, .string x.user, .string x.name, .int .i64 x.next, .slice a1 x.mails.length c1] 55)).alloc (.cells #[.int .i64 y.valid, .string y.user, .string y.name, .int .i64 y.next, .slice a2 y.mails.length c2] 55)) := (hb.alloc hb.size _).alloc (by simp; have := hb.size; omega) _
        have Z3 := (X3.later (hb.trans ((belNew wr (.cells #[.int .i64 x.valid, .string x.user, .string x.name, .int .i64 x.next, .slice a1 x.mails.length c1] 55)).mono hb.size))).cell 0 _ rfl
        go_upto_region 8 with fail
        generalize (wr.alloc (.cells #[.int .i64 x.valid, .string x.user, .string x.name, .int .i64 x.next, .slice a1 x.mails.length c1] 55)).alloc (.cells #[.int .i64 y.valid, .string y.user, .string y.name, .int .i64 y.next, .slice a2 y.mails.length c2] 55) = w2 at b2 X6 X7 ⊢
        generalize wr.heap.size + 1 = g7 at X7 ⊢
        generalize wr.heap.size = g6 at X6 ⊢
        clear p0 p1 p2 p3 p4 q0 q1 q2 q3 q4 Y2 Y3 Z3 hb bW
        obtain ⟨x0, x1, x2, x3, x4⟩ := X6.five
        obtain ⟨y0, y1, y2, y3, y4⟩ := X7.five

        have HXB := Lib.hid X6
        have HYB := Lib.hid X7
        have HB2 := Lib.hid b2
        have hend : Below w.heap.size w w2 := BW.out.trans (b2.mono BW.out.size)
        clear X6 X7 b2
        by_cases e0 : x.valid = y.valid
        case neg =>
          go_wp2
          go_ret
          exact ⟨by rw [← HD.out, sameS_part HX.out HY.out (fun e => e0 (by rw [e]))]; rfl, hend⟩
        by_cases e1 : x.user = y.user
        case neg =>
          have e1' : ¬ (x.user.toList = y.user.toList) := fun h => e1 ((ba_same' _ _).1 h)
          go_wp2
          go_ret
          exact ⟨by rw [← HD.out, sameS_part HX.out HY.out (fun e => e1 (by rw [e]))]; rfl, hend⟩
        by_cases e2 : x.name = y.name
        case neg =>
          have e2' : ¬ (x.name.toList = y.name.toList) := fun h => e2 ((ba_same' _ _).1 h)
          go_wp2
          go_ret
          exact ⟨by rw [← HD.out, sameS_part HX.out HY.out (fun e => e2 (by rw [e]))]; rfl, hend⟩
        by_cases e3 : x.next = y.next
        case neg =>
          go_wp2
          go_ret
          exact ⟨by rw [← HD.out, sameS_part HX.out HY.out (fun e => e3 (by rw [e]))]; rfl, hend⟩
        by_cases e4 : x.mails.length = y.mails.length
        case neg =>
          have e4' : ¬ ((x.mails.length : Int) = (y.mails.length : Int)) := by omega
          go_wp2
          go_ret
          exact ⟨by rw [← HD.out, sameS_part HX.out HY.out (fun e => e4 (by rw [e]))]; rfl, hend⟩
        have HSM : Hid ((∀ (k : Nat) (m m' : Ml), x.mails[k]? = some m → y.mails[k]? = some m' → m = m') → x = y) := fun h => bx_same e0 e1 e2 e3 e4 h
        obtain ⟨n1, hm0⟩ : ∃ m, x.mails.length = m := ⟨_, rfl⟩
        have hm1 : y.mails.length = n1 := by omega
        have HM0 := Lib.hid hm0
        have HM1 := Lib.hid hm1
        rw [hm0] at HXB x4 hmx
        rw [hm1] at HYB y4
        rw [hm0, hm1]
        clear hm0 hm1 hmy e4
        go_wp2
        clear x0 x1 x2 x3 x4 y0 y1 y2 y3 y4 e0 e1 e2 e3
        go_loopw [8] (fun kv wr2 => ∃ k : Nat, k ≤ n1 ∧ kv = .int .i64 (k : Int) ∧ (∀ (j : Nat) (m m' : Ml), x.mails[j]? = some m → y.mails[j]? = some m' → j < k → m = m') ∧ Below w2.heap.size w2 wr2) (fun kv _ => n1 - (intOf kv).toNat)
        case atStart => exact ⟨0, by omega, rfl, fun j m m' _ _ hj => by omega, Below.refl _ _⟩
        case round =>
          obtain ⟨k, hk, rfl, hU2, hb⟩ := hrel
          have HU2 := Lib.hid hU2
          clear hU2
          have x4 : wr.cell? ⟨g6, 4, none⟩ = some (.slice a1 n1 c1) := (HXB.out.later hb).cell 4 _ rfl
          by_cases hlk : k < n1
          · have bW : Below w.heap.size w wr := hend.trans (hb.mono hend.size)
            have bD : Below w.heap.size w wr.drew := bW.trans ((Below.refl wr.heap.size wr).drew.mono bW.size)
            have bR : Below w2.heap.size w2 wr.drew := hb.trans ((Below.refl wr.heap.size wr).drew.mono hb.size)
            have z4 : wr.drew.cell? ⟨g6, 4, none⟩ = some (.slice a1 n1 c1) := (HXB.out.later bR).cell 4 _ rfl
            have y4 : wr.drew.cell? ⟨g7, 4, none⟩ = some (.slice a2 n1 c2) := (HYB.out.later bR).cell 4 _ rfl
            obtain ⟨m, hgm⟩ : ∃ m, x.mails[k]? = some m := ⟨_, List.getElem?_eq_getElem (by rw [HM0.out]; exact hlk)⟩
            obtain ⟨m', hgm'⟩ : ∃ m, y.mails[k]? = some m := ⟨_, List.getElem?_eq_getElem (by rw [HM1.out]; exact hlk)⟩
            obtain ⟨ga, oa, rfl, p0, p1, p2⟩ := MlRow.get RA.out bD hgm
            obtain ⟨gb, ob, rfl, q0, q1, q2⟩ := MlRow.get RB.out bD hgm'
            have HG := Lib.hid hgm
            have HG' := Lib.hid hgm'
            clear hgm hgm' hb bW
            obtain ⟨U, F, T⟩ := m
            obtain ⟨U', F', T'⟩ := m'
            simp only at p0 p1 p2 q0 q1 q2
            have hk0 : (0 : Int) ≤ (k : Int) := by omega
            have hk1 : (k : Int) < (n1 : Int) := by omega
            by_cases hsame : U = U' ∧ F = F' ∧ T = T'
            · obtain ⟨rfl, rfl, rfl⟩ := hsame
              go_wp2_with fail
              refine wp_region_held_drew (S := fun x => wr.drew = x) (by kernel_rfl) rfl (fun hHeld => ?_)
              refine takeL (i := 0) (v := .pointer (some ⟨g6, 4, none⟩)) rfl (by kernel_rfl) (by kernel_rfl) (by kernel_rfl) (fun _ _ _ h => h) (Or.inl ⟨by rfl, ?_⟩) (by assumption) ?_
              · intro x hSx; subst hSx; go_simp
              try simp only [Act.put, List.setIfInBounds_toArray, List.set_cons_zero, List.set_cons_succ]
              refine takeL (i := 1) (v := .slice (some ⟨ga, oa, none⟩) n1 c1) rfl (by kernel_rfl) (by kernel_rfl) (by kernel_rfl) (fun _ _ _ h => h) (Or.inl ⟨by rfl, ?_⟩) (by assumption) ?_
              · intro x hSx; subst hSx; go_simp
              try simp only [Act.put, List.setIfInBounds_toArray, List.set_cons_zero, List.set_cons_succ]
              refine takeL (i := 2) (v := .int .i64 (k : Int)) rfl (by kernel_rfl) (by kernel_rfl) (by kernel_rfl) (fun _ _ _ h => h) (Or.inl ⟨by rfl, ?_⟩) (by assumption) ?_
              · intro x hSx; subst hSx; go_simp
              try simp only [Act.put, List.setIfInBounds_toArray, List.set_cons_zero, List.set_cons_succ]
              refine takeL (i := 3) (v := .pointer (some ⟨ga, oa + k * 3, none⟩)) rfl (by kernel_rfl) (by kernel_rfl) (by kernel_rfl) (fun _ _ _ h => h) (Or.inl ⟨by rfl, ?_⟩) (by assumption) ?_
              · intro x hSx; subst hSx; go_simp
              try simp only [Act.put, List.setIfInBounds_toArray, List.set_cons_zero, List.set_cons_succ]
              refine takeL (i := 4) (v := .agg #[.int .i64 U, .int .i64 F, .string T]) rfl (by kernel_rfl) (by kernel_rfl) (by kernel_rfl) (fun _ _ _ h => h) (Or.inl ⟨by rfl, ?_⟩) (by assumption) ?_
              · intro x hSx; subst hSx; go_simp
              try simp only [Act.put, List.setIfInBounds_toArray, List.set_cons_zero, List.set_cons_succ]
              refine takeL (i := 5) (v := .pointer (some ⟨g7, 4, none⟩)) rfl (by kernel_rfl) (by kernel_rfl) (by kernel_rfl) (fun _ _ _ h => h) (Or.inl ⟨by rfl, ?_⟩) (by assumption) ?_
              · intro x hSx; subst hSx; go_simp
              try simp only [Act.put, List.setIfInBounds_toArray, List.set_cons_zero, List.set_cons_succ]
              refine takeL (i := 6) (v := .slice (some ⟨gb, ob, none⟩) n1 c2) rfl (by kernel_rfl) (by kernel_rfl) (by kernel_rfl) (fun _ _ _ h => h) (Or.inl ⟨by rfl, ?_⟩) (by assumption) ?_
              · intro x hSx; subst hSx; go_simp
              try simp only [Act.put, List.setIfInBounds_toArray, List.set_cons_zero, List.set_cons_succ]
              refine takeL (i := 7) (v := .int .i64 (k : Int)) rfl (by kernel_rfl) (by kernel_rfl) (by kernel_rfl) (fun _ _ _ h => h) (Or.inl ⟨by rfl, ?_⟩) (by assumption) ?_
              · intro x hSx; subst hSx; go_simp
              try simp only [Act.put, List.setIfInBounds_toArray, List.set_cons_zero, List.set_cons_succ]
              refine takeL (i := 8) (v := .pointer (some ⟨gb, ob + k * 3, none⟩)) rfl (by kernel_rfl) (by kernel_rfl) (by kernel_rfl) (fun _ _ _ h => h) (Or.inl ⟨by rfl, ?_⟩) (by assumption) ?_
              · intro x hSx; subst hSx; go_simp
              try simp only [Act.put, List.setIfInBounds_toArray, List.set_cons_zero, List.set_cons_succ]
              refine takeL (i := 9) (v := .agg #[.int .i64 U, .int .i64 F, .string T]) rfl (by kernel_rfl) (by kernel_rfl) (by kernel_rfl) (fun _ _ _ h => h) (Or.inl ⟨by rfl, ?_⟩) (by assumption) ?_
              · intro x hSx; subst hSx; go_simp
              try simp only [Act.put, List.setIfInBounds_toArray, List.set_cons_zero, List.set_cons_succ]
              refine takeL (i := 10) (v := .bool false) rfl (by kernel_rfl) (by kernel_rfl) (by kernel_rfl) (fun _ _ _ h => h) (Or.inl ⟨by rfl, ?_⟩) (by assumption) ?_
              · intro x hSx; subst hSx; go_simp
              try simp only [Act.put, List.setIfInBounds_toArray, List.set_cons_zero, List.set_cons_succ]
              refine wpAnyH_done (by kernel_rfl) ?_ _
              go_wp2
              exact ⟨⟨k + 1, by omega, by go_num, fun j m m' hj hj' hjk => by
                by_cases c : j = k
                · subst c; have h1 := HG.out; have h2 := HG'.out; rw [hj] at h1; rw [hj'] at h2; cases h1; cases h2; rfl
                · exact HU2.out j m m' hj hj' (by omega), bR⟩, by first | omega | (simp [intOf]; omega)⟩
            · have HE : Hid (D = false) := by
                rw [← HD.out]
                exact sameS_part HX.out HY.out (fun e => hsame (by
                  have h1 := HG.out; have h2 := HG'.out
                  rw [e, h2] at h1; cases h1; exact ⟨rfl, rfl, rfl⟩))
              have HNE := Lib.hid hsame
              clear hsame
              go_wp2_with fail
              refine wp_region_held_drew (S := fun x => wr.drew = x) (by kernel_rfl) rfl (fun hHeld => ?_)
              refine takeL (i := 0) (v := .pointer (some ⟨g6, 4, none⟩)) rfl (by kernel_rfl) (by kernel_rfl) (by kernel_rfl) (fun _ _ _ h => h) (Or.inl ⟨by rfl, ?_⟩) (by assumption) ?_
              · intro x hSx; subst hSx; go_simp
              try simp only [Act.put, List.setIfInBounds_toArray, List.set_cons_zero, List.set_cons_succ]
              refine takeL (i := 1) (v := .slice (some ⟨ga, oa, none⟩) n1 c1) rfl (by kernel_rfl) (by kernel_rfl) (by kernel_rfl) (fun _ _ _ h => h) (Or.inl ⟨by rfl, ?_⟩) (by assumption) ?_
              · intro x hSx; subst hSx; go_simp
              try simp only [Act.put, List.setIfInBounds_toArray, List.set_cons_zero, List.set_cons_succ]
              refine takeL (i := 2) (v := .int .i64 (k : Int)) rfl (by kernel_rfl) (by kernel_rfl) (by kernel_rfl) (fun _ _ _ h => h) (Or.inl ⟨by rfl, ?_⟩) (by assumption) ?_
              · intro x hSx; subst hSx; go_simp
              try simp only [Act.put, List.setIfInBounds_toArray, List.set_cons_zero, List.set_cons_succ]
              refine takeL (i := 3) (v := .pointer (some ⟨ga, oa + k * 3, none⟩)) rfl (by kernel_rfl) (by kernel_rfl) (by kernel_rfl) (fun _ _ _ h => h) (Or.inl ⟨by rfl, ?_⟩) (by assumption) ?_
              · intro x hSx; subst hSx; go_simp
              try simp only [Act.put, List.setIfInBounds_toArray, List.set_cons_zero, List.set_cons_succ]
              refine takeL (i := 4) (v := .agg #[.int .i64 U, .int .i64 F, .string T]) rfl (by kernel_rfl) (by kernel_rfl) (by kernel_rfl) (fun _ _ _ h => h) (Or.inl ⟨by rfl, ?_⟩) (by assumption) ?_
              · intro x hSx; subst hSx; go_simp
              try simp only [Act.put, List.setIfInBounds_toArray, List.set_cons_zero, List.set_cons_succ]
              refine takeL (i := 5) (v := .pointer (some ⟨g7, 4, none⟩)) rfl (by kernel_rfl) (by kernel_rfl) (by kernel_rfl) (fun _ _ _ h => h) (Or.inl ⟨by rfl, ?_⟩) (by assumption) ?_
              · intro x hSx; subst hSx; go_simp
              try simp only [Act.put, List.setIfInBounds_toArray, List.set_cons_zero, List.set_cons_succ]
              refine takeL (i := 6) (v := .slice (some ⟨gb, ob, none⟩) n1 c2) rfl (by kernel_rfl) (by kernel_rfl) (by kernel_rfl) (fun _ _ _ h => h) (Or.inl ⟨by rfl, ?_⟩) (by assumption) ?_
              · intro x hSx; subst hSx; go_simp
              try simp only [Act.put, List.setIfInBounds_toArray, List.set_cons_zero, List.set_cons_succ]
              refine takeL (i := 7) (v := .int .i64 (k : Int)) rfl (by kernel_rfl) (by kernel_rfl) (by kernel_rfl) (fun _ _ _ h => h) (Or.inl ⟨by rfl, ?_⟩) (by assumption) ?_
              · intro x hSx; subst hSx; go_simp
              try simp only [Act.put, List.setIfInBounds_toArray, List.set_cons_zero, List.set_cons_succ]
              refine takeL (i := 8) (v := .pointer (some ⟨gb, ob + k * 3, none⟩)) rfl (by kernel_rfl) (by kernel_rfl) (by kernel_rfl) (fun _ _ _ h => h) (Or.inl ⟨by rfl, ?_⟩) (by assumption) ?_
              · intro x hSx; subst hSx; go_simp
              try simp only [Act.put, List.setIfInBounds_toArray, List.set_cons_zero, List.set_cons_succ]
              refine takeL (i := 9) (v := .agg #[.int .i64 U', .int .i64 F', .string T']) rfl (by kernel_rfl) (by kernel_rfl) (by kernel_rfl) (fun _ _ _ h => h) (Or.inl ⟨by rfl, ?_⟩) (by assumption) ?_
              · intro x hSx; subst hSx; go_simp
              try simp only [Act.put, List.setIfInBounds_toArray, List.set_cons_zero, List.set_cons_succ]
              refine takeL (i := 10) (v := .bool true) rfl (by kernel_rfl) (by kernel_rfl) (by kernel_rfl) (fun _ _ _ h => h) (Or.inl ⟨by rfl, ?_⟩) (by assumption) ?_
              · intro x hSx; subst hSx; go_simp; exact fun h1 h2 h3 => HNE.out ⟨h1, h2, (ba_same' _ _).1 h3⟩
              try simp only [Act.put, List.setIfInBounds_toArray, List.set_cons_zero, List.set_cons_succ]
              refine wpAnyH_done (by kernel_rfl) ?_ _
              go_wp2
              go_ret
              exact ⟨by rw [HE.out]; rfl, bD⟩
          · go_wp2
            go_roundw
            case rel => exact ⟨i + 1, by omega, by go_num, fun j u v h1 h2 hj => by
              by_cases c : j = i
              · subst c
                have e1 := HX.out; have e2 := HY.out; rw [h1] at e1; rw [h2] at e2; cases e1; cases e2
                exact HSM.out (fun q m m' h3 h4 => HU2.out q m m' h3 h4 (by have := (List.getElem?_eq_some_iff.1 h3).1; have := HM0.out; omega))
              · exact HU.out j u v h1 h2 (by omega), HB2.out.trans (hb.mono HB2.out.size)⟩
            case measure => simp [intOf]; omega
      · go_wp2
        go_ret
        refine ⟨?_, BW.out.trans (hb.mono BW.out.size)⟩
        rw [← HD.out, sameS_all (HN.out.trans HM.out.symm) (fun j x y h1 h2 => HU.out j x y h1 h2 (by have := (List.getElem?_eq_some_iff.1 h1).1; have := HN.out; omega))]; rfl
  · have b1 : Below w.heap.size w ((w.alloc (.cells #[.slice ad ps.length cap] 48)).alloc (.cells #[.slice ad2 qs.length cap2] 48)) := ((Below.refl _ _).alloc (Nat.le_refl _) _).alloc (by simp) _
    have hne : ¬ ((ps.length : Int) = (qs.length : Int)) := by omega
    go_enter Try.func41, Try.ntmps41
    go_wp2
    go_ret
    exact ⟨by rw [← HD.out, sameS_len hlen]; rfl, b1⟩

end Go.Proofs.Ythlbokfajiahpaa

/- What records tell: the model's BoxOf. -/
namespace Go.Proofs.Ythlbokfajiahpaa
open Go.RowKit

/-- A store elsewhere leaves a list of the call's own. -/
theorem RBuf.aside {α : Type} {E : Enc α} {B : Nat} {w : World} {v : Value} {l : List α} (h : RBuf E B w w v l) (g i : Nat) (u : Value) (hg : g < B) : RBuf E B (w.setCell ⟨g, i, none⟩ u) (w.setCell ⟨g, i, none⟩ u) v l := by
  refine h.shift (stored_grown w g i u) ?_
  cases hb : v.ownBlock with
  | none => exact .inl rfl
  | some k => exact .inr (fun e => by have := (h.own.lt k hb).1; have := Option.some.inj e; omega)
/-- Five cells stored. -/
def set5 (w : World) (b : Nat) (v0 v1 v2 v3 v4 : Value) : World := ((((w.setCell ⟨b, 0, none⟩ v0).setCell ⟨b, 1, none⟩ v1).setCell ⟨b, 2, none⟩ v2).setCell ⟨b, 3, none⟩ v3).setCell ⟨b, 4, none⟩ v4

set_option maxRecDepth 100000 in
set_option maxHeartbeats 4000000 in
theorem specBox_any (b : Bx) (a1 : Option Addr) (c1 : Nat) (w : World) (h : Rows' mlE w (.slice a1 b.mails.length c1) b.mails) (hl : b.mails.length ≤ 1048576) :
    Calls Try.prog 77 #[.agg #[.int .i64 b.valid, .string b.user, .string b.name, .int .i64 b.next, .slice a1 b.mails.length c1]] w fun e w' => ∃ v, e = .returned (.agg #[.int .i64 b.valid, .string b.user, .string b.name, .int .i64 b.next, v]) ∧ RBuf mlE w.heap.size w' w' v b.mails ∧ Below w.heap.size w w' := by
  have b1 : Below w.heap.size w ((w.alloc (.cells #[.int .i64 b.valid, .string b.user, .string b.name, .int .i64 b.next, .slice a1 b.mails.length c1] 55)).alloc (.cells #[.int .i64 0, .string ⟨#[]⟩, .string ⟨#[]⟩, .int .i64 0, .slice none 0 0] 55)) := ((Below.refl _ _).alloc (Nat.le_refl _) _).alloc (by simp) _
  have X1 := (Box.new w #[.int .i64 b.valid, .string b.user, .string b.name, .int .i64 b.next, .slice a1 b.mails.length c1] 55).later (belNew _ (.cells #[.int .i64 0, .string ⟨#[]⟩, .string ⟨#[]⟩, .int .i64 0, .slice none 0 0] 55))
  have hsz : ((w.alloc (.cells #[.int .i64 b.valid, .string b.user, .string b.name, .int .i64 b.next, .slice a1 b.mails.length c1] 55)).alloc (.cells #[.int .i64 0, .string ⟨#[]⟩, .string ⟨#[]⟩, .int .i64 0, .slice none 0 0] 55)).heap.size = w.heap.size + 2 := by simp
  have X2 : Box ((w.alloc (.cells #[.int .i64 b.valid, .string b.user, .string b.name, .int .i64 b.next, .slice a1 b.mails.length c1] 55)).alloc (.cells #[.int .i64 0, .string ⟨#[]⟩, .string ⟨#[]⟩, .int .i64 0, .slice none 0 0] 55)) (w.heap.size + 1) #[.int .i64 0, .string ⟨#[]⟩, .string ⟨#[]⟩, .int .i64 0, .slice none 0 0] 55 := by
    have := Box.new (w.alloc (.cells #[.int .i64 b.valid, .string b.user, .string b.name, .int .i64 b.next, .slice a1 b.mails.length c1] 55)) #[.int .i64 0, .string ⟨#[]⟩, .string ⟨#[]⟩, .int .i64 0, .slice none 0 0] 55
    rwa [show (w.alloc (.cells #[.int .i64 b.valid, .string b.user, .string b.name, .int .i64 b.next, .slice a1 b.mails.length c1] 55)).heap.size = w.heap.size + 1 from by simp] at this
  have R1 := h.later b1
  go_enter Try.func77, Try.ntmps77
  go_upto_region 1 with fail
  generalize (w.alloc (.cells #[.int .i64 b.valid, .string b.user, .string b.name, .int .i64 b.next, .slice a1 b.mails.length c1] 55)).alloc (.cells #[.int .i64 0, .string ⟨#[]⟩, .string ⟨#[]⟩, .int .i64 0, .slice none 0 0] 55) = w1 at b1 X1 X2 hsz R1 ⊢
  have BW := Lib.hid b1
  have SZ := Lib.hid hsz
  have I0 := (RBuf.fresh mlE w1).here
  have b2 := belNew w1 (.cells #[] 57)
  have H2 := Lib.hid (X2.later b2)
  have H1 := Lib.hid (X1.later b2)
  have x4 : (w1.alloc (.cells #[] 57)).cell? ⟨w.heap.size, 4, none⟩ = some (.slice a1 b.mails.length c1) := H1.out.cell 4 _ rfl
  have HR := Lib.hid (R1.later b2)
  have HI := Lib.hid I0
  clear h b1 X1 X2 hsz R1 I0 b2
  go_wp2_with (at_builtin; refine wpList_append_rd rfl _ _ mlE rfl w1.heap.size _ [] rfl HI.out _ b.mails rfl HR.out ?hl ?_)
  case hl => simp [mlE]; omega
  intro v' w2 hv gv _
  obtain ⟨pv, cv, rfl⟩ := hv.form
  have gv : World.grownBy _ w2 (some w1.heap.size) := gv
  have hlt : w.heap.size < w1.heap.size := by have := SZ.out; omega
  have hlt2 : w.heap.size + 1 < w1.heap.size := by have := SZ.out; omega
  have K1 : Box w2 w.heap.size #[.int .i64 b.valid, .string b.user, .string b.name, .int .i64 b.next, .slice a1 b.mails.length c1] 55 := (gv.block _ H1.out.lt (fun e => by have := Option.some.inj e; omega)).trans H1.out
  have K2 : Box w2 (w.heap.size + 1) #[.int .i64 0, .string ⟨#[]⟩, .string ⟨#[]⟩, .int .i64 0, .slice none 0 0] 55 := (gv.block _ H2.out.lt (fun e => by have := Option.some.inj e; omega)).trans H2.out
  have bG : Below w.heap.size w w2 := (BW.out.alloc BW.out.size _).grown gv (by simp; omega) (fun k hk => by have := Option.some.inj hk; omega)
  have L1 : Box (w2.setCell ⟨w.heap.size, 4, none⟩ (.slice pv b.mails.length cv)) w.heap.size #[.int .i64 b.valid, .string b.user, .string b.name, .int .i64 b.next, .slice pv b.mails.length cv] 55 := K1.set 4 _
  have L2 : Box (w2.setCell ⟨w.heap.size, 4, none⟩ (.slice pv b.mails.length cv)) (w.heap.size + 1) #[.int .i64 0, .string ⟨#[]⟩, .string ⟨#[]⟩, .int .i64 0, .slice none 0 0] 55 := K2.other (by omega) 4 _
  have hv2 := hv.aside w.heap.size 4 (.slice pv b.mails.length cv) hlt
  have bS : Below w.heap.size w (w2.setCell ⟨w.heap.size, 4, none⟩ (.slice pv b.mails.length cv)) := bG.setCell (p := ⟨w.heap.size, 4, none⟩) (Nat.le_refl _) _
  have k4 : w2.cell? ⟨w.heap.size, 4, none⟩ = some (.slice a1 b.mails.length c1) := K1.cell 4 _ rfl
  have f4 : w2.frozen? ⟨w.heap.size, 4, none⟩ = false := K1.loose 4
  have HV := Lib.hid hv2
  have HL := Lib.hid L2
  have HLT := Lib.hid hlt2
  have HBS := Lib.hid bS
  clear K1 K2 bG hv hv2 gv H1 H2 HR HI BW SZ x4 hlt hlt2 L2 bS
  go_upto_region 2 with fail
  generalize w2.setCell ⟨w.heap.size, 4, none⟩ (.slice pv b.mails.length cv) = w3 at L1 HL HBS HV ⊢
  clear f4 k4
  obtain ⟨y0, y1, y2, y3, y4⟩ := L1.five
  obtain ⟨u0, u1, u2, u3, u4⟩ := HL.out.five
  have f0 := HL.out.loose 0
  have f1 := HL.out.loose 1
  have f2 := HL.out.loose 2
  have f3 := HL.out.loose 3
  have f4 := HL.out.loose 4
  have L5 : Box (set5 w3 (w.heap.size + 1) (.int .i64 b.valid) (.string b.user) (.string b.name) (.int .i64 b.next) (.slice pv b.mails.length cv)) (w.heap.size + 1) #[.int .i64 b.valid, .string b.user, .string b.name, .int .i64 b.next, .slice pv b.mails.length cv] 55 := ((((HL.out.set 0 _).set 1 _).set 2 _).set 3 _).set 4 _
  unfold set5 at L5
  obtain ⟨z0, z1, z2, z3, z4⟩ := L5.five
  clear L1 L5
  go_wp2
  refine bodyPost_ret (v := .agg #[.int .i64 b.valid, .string b.user, .string b.name, .int .i64 b.next, .slice pv b.mails.length cv]) (by simp [results, Try.results77, go_sem, z0, z1, z2, z3, z4]) rfl ⟨_, rfl, ?_, ?_⟩
  · exact (((((HV.out.aside _ 0 _ HLT.out).aside _ 1 _ HLT.out).aside _ 2 _ HLT.out).aside _ 3 _ HLT.out).aside _ 4 _ HLT.out).lower (by have := HLT.out; omega)
  · exact ((((HBS.out.setCell (p := ⟨w.heap.size + 1, 0, none⟩) (by simp) _).setCell (p := ⟨w.heap.size + 1, 1, none⟩) (by simp) _).setCell (p := ⟨w.heap.size + 1, 2, none⟩) (by simp) _).setCell (p := ⟨w.heap.size + 1, 3, none⟩) (by simp) _).setCell (p := ⟨w.heap.size + 1, 4, none⟩) (by simp) _

end Go.Proofs.Ythlbokfajiahpaa

/- A box out of what is gathered of it. -/
namespace Go.Proofs.Ythlbokfajiahpaa
open Go.RowKit

set_option maxRecDepth 100000 in
set_option maxHeartbeats 4000000 in
theorem box_any (t : Tb) (a n : Nat) (w : World) (h : TbAt w a n t) (hn : n ≤ 1000) (hdom : ∀ u x, t.adds u = some x → iK.ok u ∧ x.2.text.size ≤ 1000) (hu : t.named.2.user.size ≤ 1000) (hnm : t.named.2.name.size ≤ 1000) :
    Calls Try.prog 65 #[.pointer (some ⟨a + 2, 0, none⟩)] w fun e w' => ∃ (pm : Option Addr) (cm : Nat) (ms : List Ml), e = .returned (.agg #[.int .i64 t.named.2.valid, .string t.named.2.user, .string t.named.2.name, .int .i64 t.next, .slice pm ms.length cm]) ∧ RBuf mlE w.heap.size w' w' (.slice pm ms.length cm) ms ∧ Below w.heap.size w w' ∧ (∀ m, m ∈ ms ↔ ∃ x, t.adds m.uid = some x ∧ m = mlOf t m.uid x) ∧ ms.Pairwise (fun x y => x.uid < y.uid) ∧ ms.length ≤ n := by
  obtain ⟨⟨sq, K, V, U, N, FL, US, NM, TX⟩, nx, ad, fl⟩ := t
  simp only at hdom hu hnm ⊢
  have h0 := belNew w (.cells #[.int .i64 0, .string ⟨#[]⟩, .string ⟨#[]⟩, .int .i64 0, .slice none 0 0] 55)
  have B0 := Box.new w #[.int .i64 0, .string ⟨#[]⟩, .string ⟨#[]⟩, .int .i64 0, .slice none 0 0] 55
  have T0 := h.later h0
  have e0 : (w.alloc (.cells #[.int .i64 0, .string ⟨#[]⟩, .string ⟨#[]⟩, .int .i64 0, .slice none 0 0] 55)).heap.size = w.heap.size + 1 := by simp
  have la := h.box.lt
  obtain ⟨p0, p1, p2, p3, p4, p5, p6, p7, p8, p9, p10, p11⟩ := T0.box.twelve
  go_enter Try.func65, Try.ntmps65
  go_upto_region 1 with fail
  generalize w.alloc (.cells #[.int .i64 0, .string ⟨#[]⟩, .string ⟨#[]⟩, .int .i64 0, .slice none 0 0] 55) = w0 at h0 B0 T0 e0 p0 p1 p2 p3 p4 p5 p6 p7 p8 p9 p10 p11 ⊢
  have HE0 := Lib.hid e0
  clear e0
  have k1 := belNew w0 (.cells #[.int .i64 K, .int .i64 V, .int .i64 U, .int .i64 N, .int .i64 FL, .string US, .string NM, .string TX] 25)
  have X1 := Box.new w0 #[.int .i64 K, .int .i64 V, .int .i64 U, .int .i64 N, .int .i64 FL, .string US, .string NM, .string TX] 25
  have B1 := B0.later k1
  have T1 := T0.later k1
  have h1 := h0.trans (k1.mono h0.size)
  go_upto_region 2 with fail
  clear p0 p1 p2 p3 p4 p5 p6 p7 p8 p9 p10 p11
  generalize w0.alloc (.cells #[.int .i64 K, .int .i64 V, .int .i64 U, .int .i64 N, .int .i64 FL, .string US, .string NM, .string TX] 25) = w1 at k1 X1 B1 T1 h1 ⊢
  obtain ⟨gr, hgr⟩ : ∃ gr, w0.heap.size = gr := ⟨_, rfl⟩
  have hgr2 : gr = w.heap.size + 1 := by have := HE0.out; omega
  rw [hgr] at X1 ⊢
  obtain ⟨g, hg⟩ : ∃ g, w.heap.size = g := ⟨_, rfl⟩
  rw [hg] at B1
  have hg1 : g ≠ gr := by omega
  have hg2 : a + 2 < g := by omega
  have r1 : ∀ X, Kept g (g + 1) w1 X → X.cell? ⟨gr, 1, none⟩ = some (.int .i64 V) := fun X hX => by
    have hB : Box X gr #[.int .i64 K, .int .i64 V, .int .i64 U, .int .i64 N, .int .i64 FL, .string US, .string NM, .string TX] 25 := (hX.block gr X1.lt (by omega)).trans X1
    exact hB.cell 1 _ rfl
  have r5 : ∀ X, Kept g (g + 1) w1 X → X.cell? ⟨gr, 5, none⟩ = some (.string US) := fun X hX => by
    have hB : Box X gr #[.int .i64 K, .int .i64 V, .int .i64 U, .int .i64 N, .int .i64 FL, .string US, .string NM, .string TX] 25 := (hX.block gr X1.lt (by omega)).trans X1
    exact hB.cell 5 _ rfl
  have r6 : ∀ X, Kept g (g + 1) w1 X → X.cell? ⟨gr, 6, none⟩ = some (.string NM) := fun X hX => by
    have hB : Box X gr #[.int .i64 K, .int .i64 V, .int .i64 U, .int .i64 N, .int .i64 FL, .string US, .string NM, .string TX] 25 := (hX.block gr X1.lt (by omega)).trans X1
    exact hB.cell 6 _ rfl
  have HTX : Hid (∀ X, Kept g (g + 1) w1 X → TbAt X a n ⟨(sq, ⟨K, V, U, N, FL, US, NM, TX⟩), nx, ad, fl⟩) := fun X hX => T1.same (hX.block a T1.adds.lt (by omega)) (hX.block (a + 1) T1.flags.lt (by omega)) (hX.block (a + 2) T1.box.lt (by omega))
  have rn : ∀ X, Kept g (g + 1) w1 X → X.cell? ⟨a + 2, 9, none⟩ = some (.int .i64 nx) := fun X hX => (HTX.out X hX).box.cell 9 _ rfl
  have HML : Hid (∀ X, Kept g (g + 1) w1 X → _) := fun X hX => mails_any ⟨(sq, ⟨K, V, U, N, FL, US, NM, TX⟩), nx, ad, fl⟩ a n X (HTX.out X hX) hn hdom
  have HCU := Lib.hid (fun wx => clone_any US wx (by omega))
  have HCN := Lib.hid (fun wx => clone_any NM wx (by omega))
  have HBX : Hid (∀ X, Below w1.heap.size w1 X → Box X g #[.int .i64 0, .string ⟨#[]⟩, .string ⟨#[]⟩, .int .i64 0, .slice none 0 0] 55) := fun X hX => B1.later hX
  have HH1 := Lib.hid h1
  have HG := Lib.hid hg
  have HGS : Hid (g < w1.heap.size) := B1.lt
  have hbelow : Below w1.heap.size w1 w1.drew := (Below.refl _ _).drew
  rw [hg]
  clear X1 B1 T1 T0 B0 h0 h1 k1 hgr hgr2 hg hg1 hg2 la h hdom
  refine wp_region_held_drew (S := fun x => Kept g (g + 1) w1 x) (by kernel_rfl) ((Kept.of_below (Below.refl _ _) _ _).drew) (fun hHeld => ?_)
  refine takeL (i := 0) (v := .pointer (some ⟨gr, 1, none⟩)) rfl (by kernel_rfl) (by kernel_rfl) (by kernel_rfl) (fun _ _ _ h => h) (Or.inl ⟨by rfl, ?_⟩) (by assumption) ?_
  · intro x hSx; go_simp
  try simp only [Act.put, List.setIfInBounds_toArray, List.set_cons_zero, List.set_cons_succ]
  refine takeL (i := 1) (v := .int .i64 V) rfl (by kernel_rfl) (by kernel_rfl) (by kernel_rfl) (fun _ _ _ h => h) (Or.inl ⟨by rfl, ?_⟩) (by assumption) ?_
  · intro x hSx; have q0 := r1 x hSx; go_simp
  try simp only [Act.put, List.setIfInBounds_toArray, List.set_cons_zero, List.set_cons_succ]
  refine takeL (i := 2) (v := .pointer (some ⟨gr, 5, none⟩)) rfl (by kernel_rfl) (by kernel_rfl) (by kernel_rfl) (fun _ _ _ h => h) (Or.inl ⟨by rfl, ?_⟩) (by assumption) ?_
  · intro x hSx; go_simp
  try simp only [Act.put, List.setIfInBounds_toArray, List.set_cons_zero, List.set_cons_succ]
  refine takeL (i := 3) (v := .string US) rfl (by kernel_rfl) (by kernel_rfl) (by kernel_rfl) (fun _ _ _ h => h) (Or.inl ⟨by rfl, ?_⟩) (by assumption) ?_
  · intro x hSx; have q0 := r5 x hSx; go_simp
  try simp only [Act.put, List.setIfInBounds_toArray, List.set_cons_zero, List.set_cons_succ]
  refine takeL (i := 5) (v := .pointer (some ⟨gr, 6, none⟩)) rfl (by kernel_rfl) (by kernel_rfl) (by kernel_rfl) (fun _ _ _ h => h) (Or.inl ⟨by rfl, ?_⟩) (by assumption) ?_
  · intro x hSx; go_simp
  try simp only [Act.put, List.setIfInBounds_toArray, List.set_cons_zero, List.set_cons_succ]
  refine takeL (i := 6) (v := .string NM) rfl (by kernel_rfl) (by kernel_rfl) (by kernel_rfl) (fun _ _ _ h => h) (Or.inl ⟨by rfl, ?_⟩) (by assumption) ?_
  · intro x hSx; have q0 := r6 x hSx; go_simp
  try simp only [Act.put, List.setIfInBounds_toArray, List.set_cons_zero, List.set_cons_succ]
  refine takeL (i := 8) (v := .pointer (some ⟨a + 2, 0, none⟩)) rfl (by kernel_rfl) (by kernel_rfl) (by kernel_rfl) (fun _ _ _ h => h) (Or.inl ⟨by rfl, ?_⟩) (by assumption) ?_
  · intro x hSx; go_simp
  try simp only [Act.put, List.setIfInBounds_toArray, List.set_cons_zero, List.set_cons_succ]
  refine takeL (i := 9) (v := .pointer (some ⟨a + 2, 0, none⟩)) rfl (by kernel_rfl) (by kernel_rfl) (by kernel_rfl) (fun _ _ _ h => h) (Or.inl ⟨by rfl, ?_⟩) (by assumption) ?_
  · intro x hSx; go_simp
  try simp only [Act.put, List.setIfInBounds_toArray, List.set_cons_zero, List.set_cons_succ]
  refine takeL (i := 10) (v := .pointer (some ⟨a + 2, 9, none⟩)) rfl (by kernel_rfl) (by kernel_rfl) (by kernel_rfl) (fun _ _ _ h => h) (Or.inl ⟨by rfl, ?_⟩) (by assumption) ?_
  · intro x hSx; go_simp
  try simp only [Act.put, List.setIfInBounds_toArray, List.set_cons_zero, List.set_cons_succ]
  refine takeL (i := 11) (v := .int .i64 nx) rfl (by kernel_rfl) (by kernel_rfl) (by kernel_rfl) (fun _ _ _ h => h) (Or.inl ⟨by rfl, ?_⟩) (by assumption) ?_
  · intro x hSx; have q0 := rn x hSx; go_simp
  try simp only [Act.put, List.setIfInBounds_toArray, List.set_cons_zero, List.set_cons_succ]
  refine takeL (i := 12) (v := .pointer (some ⟨a + 2, 0, none⟩)) rfl (by kernel_rfl) (by kernel_rfl) (by kernel_rfl) (fun _ _ _ h => h) (Or.inl ⟨by rfl, ?_⟩) (by assumption) ?_
  · intro x hSx; go_simp
  try simp only [Act.put, List.setIfInBounds_toArray, List.set_cons_zero, List.set_cons_succ]
  refine wpAnyH_ready (rs := [4]) (by kernel_rfl) (by simp) ?_
  refine readyOne rfl (fun K' hK => ?_)
  go_simp
  refine (HCU.out _).mono ?_
  rintro e wT4 ⟨rfl, k4⟩
  go_wp2_with fail
  refine hK.out _ _ (hHeld.trans (Kept.of_below k4 _ _)) (fun hS2 => ?_)
  clear hK K' hHeld
  have hHeld := hS2
  clear hS2
  try simp only [Act.put, List.setIfInBounds_toArray, List.set_cons_zero, List.set_cons_succ]
  refine wpAnyH_ready (rs := [7]) (by kernel_rfl) (by simp) ?_
  refine readyOne rfl (fun K' hK => ?_)
  go_simp
  refine (HCN.out _).mono ?_
  rintro e wT7 ⟨rfl, k7⟩
  go_wp2_with fail
  refine hK.out _ _ (hHeld.trans (Kept.of_below k7 _ _)) (fun hS2 => ?_)
  clear hK K' hHeld
  have hHeld := hS2
  clear hS2
  try simp only [Act.put, List.setIfInBounds_toArray, List.set_cons_zero, List.set_cons_succ]
  refine wpAnyH_ready (rs := [13]) (by kernel_rfl) (by simp) ?_
  refine readyOne rfl (fun K' hK => ?_)
  go_simp
  refine (HML.out _ hHeld).mono ?_
  rintro e wT13 ⟨mv, ms, rfl, RM, hm1, hm2, hm3⟩
  go_wp2_with fail
  refine hK.out _ _ (hHeld.trans (Kept.of_below RM.bel _ _)) (fun hS2 => ?_)
  clear hK K' hHeld
  have hHeld := hS2
  clear hS2
  try simp only [Act.put, List.setIfInBounds_toArray, List.set_cons_zero, List.set_cons_succ]
  obtain ⟨pm, cm, rfl⟩ := RM.form
  refine takeL (i := 14) (v := .agg #[.int .i64 V, .string US, .string NM, .int .i64 nx, .slice pm ms.length cm]) rfl (by kernel_rfl) (by kernel_rfl) (by kernel_rfl) (fun _ _ _ h => h) (Or.inl ⟨by rfl, ?_⟩) (by assumption) ?_
  · intro x hSx; go_simp
  try simp only [Act.put, List.setIfInBounds_toArray, List.set_cons_zero, List.set_cons_succ]
  have kT : Below w1.heap.size w1 wT13 := (hbelow.trans (k4.trans (k7.mono k4.size))).trans (RM.bel.mono (Nat.le_trans (Nat.le_trans hbelow.size k4.size) k7.size))
  have BT := HBX.out _ kT
  have HS5 : Hid (Kept g (g + 1) w1 (set5 wT13 g (.int .i64 V) (.string US) (.string NM) (.int .i64 nx) (.slice pm ms.length cm))) := ((((hHeld.store g 0 _ (by omega) (by omega)).store g 1 _ (by omega) (by omega)).store g 2 _ (by omega) (by omega)).store g 3 _ (by omega) (by omega)).store g 4 _ (by omega) (by omega)
  have HGT : Hid (g < wT7.heap.size) := Nat.lt_of_lt_of_le HGS.out (Nat.le_trans hbelow.size (Nat.le_trans k4.size k7.size))
  have L5 : Box (set5 wT13 g (.int .i64 V) (.string US) (.string NM) (.int .i64 nx) (.slice pm ms.length cm)) g #[.int .i64 V, .string US, .string NM, .int .i64 nx, .slice pm ms.length cm] 55 := ((((BT.set 0 _).set 1 _).set 2 _).set 3 _).set 4 _
  have HR5 : Hid (RBuf mlE wT7.heap.size (set5 wT13 g (.int .i64 V) (.string US) (.string NM) (.int .i64 nx) (.slice pm ms.length cm)) (set5 wT13 g (.int .i64 V) (.string US) (.string NM) (.int .i64 nx) (.slice pm ms.length cm)) (.slice pm ms.length cm) ms) := ((((RM.here.aside g 0 _ HGT.out).aside g 1 _ HGT.out).aside g 2 _ HGT.out).aside g 3 _ HGT.out).aside g 4 _ HGT.out
  have HB5 : Hid (Below g w (set5 wT13 g (.int .i64 V) (.string US) (.string NM) (.int .i64 nx) (.slice pm ms.length cm))) := by
    have h0 : Below w.heap.size w wT13 := HH1.out.trans (kT.mono HH1.out.size)
    rw [HG.out] at h0
    exact ((((h0.setCell (p := ⟨g, 0, none⟩) (Nat.le_refl _) _).setCell (p := ⟨g, 1, none⟩) (Nat.le_refl _) _).setCell (p := ⟨g, 2, none⟩) (Nat.le_refl _) _).setCell (p := ⟨g, 3, none⟩) (Nat.le_refl _) _).setCell (p := ⟨g, 4, none⟩) (Nat.le_refl _) _
  have hgT : g ≤ wT7.heap.size := Nat.le_of_lt HGT.out
  unfold set5 at HS5 L5 HR5 HB5
  obtain ⟨z0, z1, z2, z3, z4⟩ := L5.five
  obtain ⟨u0, u1, u2, u3, u4⟩ := BT.five
  have f0 := BT.loose 0
  have f1 := BT.loose 1
  have f2 := BT.loose 2
  have f3 := BT.loose 3
  have f4 := BT.loose 4
  have HM1 := Lib.hid hm1
  have HM2 := Lib.hid hm2
  clear L5 BT kT RM k4 k7 hbelow hm1 hm2
  refine wpAnyH_ready (rs := [15]) (by kernel_rfl) (by simp) ?_
  refine readyOne rfl (fun K' hK => ?_)
  go_simp
  refine hK.out _ _ HS5.out (fun hS2 => ?_)
  clear hK K' hHeld hS2
  try simp only [Act.put, List.setIfInBounds_toArray, List.set_cons_zero, List.set_cons_succ]
  refine wpAnyH_done (by kernel_rfl) ?_ _
  go_wp2
  refine bodyPost_ret (v := .agg #[.int .i64 V, .string US, .string NM, .int .i64 nx, .slice pm ms.length cm]) (by simp [results, Try.results65, go_sem, z0, z1, z2, z3, z4]) rfl ⟨pm, cm, ms, rfl, ?_, ?_, HM1.out, HM2.out, hm3⟩
  · rw [HG.out]; exact HR5.out.lower hgT
  · rw [HG.out]; exact HB5.out

end Go.Proofs.Ythlbokfajiahpaa

/- What StateOf hands back. -/
namespace Go.Proofs.Ythlbokfajiahpaa
open Go.RowKit

/-- What StateOf hands back: boxes in memory of their own. -/
def StateC (f : Nat) (l : List Itm) : Prop := ∀ (v : Value) (X : World), Rows' itE X v l → Calls Try.prog f #[v] X fun e w' => ∃ bv hs, e = .returned (.agg #[bv]) ∧ StO X.heap.size w' bv (stateL l) hs ∧ Below X.heap.size X w'

end Go.Proofs.Ythlbokfajiahpaa
