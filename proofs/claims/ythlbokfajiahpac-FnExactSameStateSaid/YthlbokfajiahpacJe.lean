/- Texts of our own, joined. -/
import Derived.Test.YthlbokfajiahpacJd
import Derived.Test.YthlbokfajiahpacJc
import Derived.Test.YthlbokfajiahpacJa
import Derived.WalkSpells
import Derived.WalkSmall
/- States held against each other: the program's SameState. -/
namespace Go.Proofs.Ythlbokfajiahpac
open Go.RowKit

/-- The same mails. -/
noncomputable def sameM (ms ns : List Ml) : Bool := @decide (ms = ns) (Classical.propDecidable _)
theorem sameM_yes {ms ns : List Ml} (h : ms = ns) : sameM ms ns = true := @decide_eq_true _ (Classical.propDecidable _) h
theorem sameM_no {ms ns : List Ml} (h : ms ≠ ns) : sameM ms ns = false := @decide_eq_false _ (Classical.propDecidable _) h
theorem sameM_all {ms ns : List Ml} (hl : ms.length = ns.length) (h : ∀ (k : Nat) (x y : Ml), ms[k]? = some x → ns[k]? = some y → x = y) : sameM ms ns = true :=
  sameM_yes (List.ext_getElem? fun i => by
    by_cases c : i < ms.length
    · have e1 : ms[i]? = some ms[i] := List.getElem?_eq_getElem c
      have e2 : ns[i]? = some (ns[i]'(by omega)) := List.getElem?_eq_getElem (by omega)
      rw [e1, e2, h i _ _ e1 e2]
    · rw [List.getElem?_eq_none (by omega), List.getElem?_eq_none (by omega)])
/-- The same box. -/
noncomputable def sameB (x y : Bx) : Bool := @decide (x = y) (Classical.propDecidable _)
theorem sameB_yes {x y : Bx} (h : x = y) : sameB x y = true := @decide_eq_true _ (Classical.propDecidable _) h
theorem sameB_no {x y : Bx} (h : x ≠ y) : sameB x y = false := @decide_eq_false _ (Classical.propDecidable _) h

set_option maxRecDepth 100000 in
set_option maxHeartbeats 4000000 in
theorem equalMails_any (ps qs : List Ml) (va vb : Value) (w : World) (ha : Rows' mlE w va ps) (hb : Rows' mlE w vb qs) (hla : ps.length ≤ 1099511627776) :
    Calls Try.prog 39 #[va, vb] w fun e w' => e = .returned (.bool (sameM ps qs)) ∧ Below w.heap.size w w' := by
  obtain ⟨ad, n, cap, rfl⟩ : ∃ ad n cap, va = .slice ad n cap := by
    rcases ha.ways with ⟨_, a, c, e⟩ | ⟨_, g, off, c, e, _⟩
    · exact ⟨_, _, _, e⟩
    · exact ⟨_, _, _, e⟩
  obtain ⟨ad2, n2, cap2, rfl⟩ : ∃ ad n cap, vb = .slice ad n cap := by
    rcases hb.ways with ⟨_, a, c, e⟩ | ⟨_, g, off, c, e, _⟩
    · exact ⟨_, _, _, e⟩
    · exact ⟨_, _, _, e⟩
  obtain ⟨hn, ra⟩ := ha.mails
  obtain ⟨hn2, rb⟩ := hb.mails
  have RA := Lib.hid ra
  have RB := Lib.hid rb
  have HN := Lib.hid hn
  have HN2 := Lib.hid hn2
  have hle : n ≤ 1099511627776 := by omega
  obtain ⟨D, hD⟩ : ∃ D, sameM ps qs = D := ⟨_, rfl⟩
  have HD := Lib.hid hD
  rw [hD]
  have hlen : n = n2 ∨ n ≠ n2 := by omega
  clear ha hb ra rb hn hn2 hla hD
  rcases hlen with rfl | hne
  case inr =>
    have HNE := Lib.hid hne
    have hne' : ¬ ((n : Int) = (n2 : Int)) := by omega
    clear hne
    go_enter Try.func39, Try.ntmps39
    go_wp2
    go_ret
    refine ⟨?_, Below.refl _ _⟩
    rw [← HD.out, sameM_no (fun e => HNE.out (by rw [HN.out, HN2.out, e]))]; rfl
  go_enter Try.func39, Try.ntmps39
  go_wp2
  go_loopw [13] (fun kv wr => ∃ k : Nat, k ≤ n ∧ kv = .int .i64 (k : Int) ∧ (∀ (j : Nat) (m m' : Ml), ps[j]? = some m → qs[j]? = some m' → j < k → m = m') ∧ Below w.heap.size w wr) (fun kv _ => n - (intOf kv).toNat)
  case atStart => exact ⟨0, by omega, rfl, fun j m m' _ _ hj => by omega, Below.refl _ _⟩
  case round =>
    obtain ⟨k, hk, rfl, hU, hb⟩ := hrel
    have HU := Lib.hid hU
    clear hU
    by_cases hlk : k < n
    · have bD : Below w.heap.size w wr.drew := hb.trans ((Below.refl wr.heap.size wr).drew.mono hb.size)
      obtain ⟨m, hgm⟩ : ∃ m, ps[k]? = some m := ⟨_, List.getElem?_eq_getElem (by rw [← HN.out]; exact hlk)⟩
      obtain ⟨m', hgm'⟩ : ∃ m, qs[k]? = some m := ⟨_, List.getElem?_eq_getElem (by rw [← HN2.out]; exact hlk)⟩
      obtain ⟨ga, oa, rfl, p0, p1, p2⟩ := MlRow.get RA.out bD hgm
      obtain ⟨gb, ob, rfl, q0, q1, q2⟩ := MlRow.get RB.out bD hgm'
      have HG := Lib.hid hgm
      have HG' := Lib.hid hgm'
      clear hgm hgm' hb
      obtain ⟨U, F, T⟩ := m
      obtain ⟨U', F', T'⟩ := m'
      simp only at p0 p1 p2 q0 q1 q2
      have hk0 : (0 : Int) ≤ (k : Int) := by omega
      have hk1 : (k : Int) < (n : Int) := by omega
      by_cases hsame : U = U' ∧ F = F' ∧ T = T'
      · obtain ⟨rfl, rfl, rfl⟩ := hsame
        go_upto_region 6 with fail
        refine wp_region_held_drew (S := fun x => wr.drew = x) (by kernel_rfl) rfl (fun hHeld => ?_)
        refine takeL (i := 0) (v := .slice (some ⟨ga, oa, none⟩) n cap) rfl (by kernel_rfl) (by kernel_rfl) (by kernel_rfl) (fun _ _ _ h => h) (Or.inl ⟨by rfl, ?_⟩) (by assumption) ?_
        · intro x hSx; subst hSx; go_simp
        try simp only [Act.put, List.setIfInBounds_toArray, List.set_cons_zero, List.set_cons_succ]
        refine takeL (i := 1) (v := .int .i64 (k : Int)) rfl (by kernel_rfl) (by kernel_rfl) (by kernel_rfl) (fun _ _ _ h => h) (Or.inl ⟨by rfl, ?_⟩) (by assumption) ?_
        · intro x hSx; subst hSx; go_simp
        try simp only [Act.put, List.setIfInBounds_toArray, List.set_cons_zero, List.set_cons_succ]
        refine takeL (i := 2) (v := .pointer (some ⟨ga, oa + k * 3, none⟩)) rfl (by kernel_rfl) (by kernel_rfl) (by kernel_rfl) (fun _ _ _ h => h) (Or.inl ⟨by rfl, ?_⟩) (by assumption) ?_
        · intro x hSx; subst hSx; go_simp
        try simp only [Act.put, List.setIfInBounds_toArray, List.set_cons_zero, List.set_cons_succ]
        refine takeL (i := 3) (v := .agg #[.int .i64 U, .int .i64 F, .string T]) rfl (by kernel_rfl) (by kernel_rfl) (by kernel_rfl) (fun _ _ _ h => h) (Or.inl ⟨by rfl, ?_⟩) (by assumption) ?_
        · intro x hSx; subst hSx; go_simp
        try simp only [Act.put, List.setIfInBounds_toArray, List.set_cons_zero, List.set_cons_succ]
        refine takeL (i := 4) (v := .slice (some ⟨gb, ob, none⟩) n cap2) rfl (by kernel_rfl) (by kernel_rfl) (by kernel_rfl) (fun _ _ _ h => h) (Or.inl ⟨by rfl, ?_⟩) (by assumption) ?_
        · intro x hSx; subst hSx; go_simp
        try simp only [Act.put, List.setIfInBounds_toArray, List.set_cons_zero, List.set_cons_succ]
        refine takeL (i := 5) (v := .int .i64 (k : Int)) rfl (by kernel_rfl) (by kernel_rfl) (by kernel_rfl) (fun _ _ _ h => h) (Or.inl ⟨by rfl, ?_⟩) (by assumption) ?_
        · intro x hSx; subst hSx; go_simp
        try simp only [Act.put, List.setIfInBounds_toArray, List.set_cons_zero, List.set_cons_succ]
        refine takeL (i := 6) (v := .pointer (some ⟨gb, ob + k * 3, none⟩)) rfl (by kernel_rfl) (by kernel_rfl) (by kernel_rfl) (fun _ _ _ h => h) (Or.inl ⟨by rfl, ?_⟩) (by assumption) ?_
        · intro x hSx; subst hSx; go_simp
        try simp only [Act.put, List.setIfInBounds_toArray, List.set_cons_zero, List.set_cons_succ]
        refine takeL (i := 7) (v := .agg #[.int .i64 U, .int .i64 F, .string T]) rfl (by kernel_rfl) (by kernel_rfl) (by kernel_rfl) (fun _ _ _ h => h) (Or.inl ⟨by rfl, ?_⟩) (by assumption) ?_
        · intro x hSx; subst hSx; go_simp
        try simp only [Act.put, List.setIfInBounds_toArray, List.set_cons_zero, List.set_cons_succ]
        refine takeL (i := 8) (v := .bool false) rfl (by kernel_rfl) (by kernel_rfl) (by kernel_rfl) (fun _ _ _ h => h) (Or.inl ⟨by rfl, ?_⟩) (by assumption) ?_
        · intro x hSx; subst hSx; go_simp
        try simp only [Act.put, List.setIfInBounds_toArray, List.set_cons_zero, List.set_cons_succ]
        refine wpAnyH_done (by kernel_rfl) ?_ _
        go_wp2
        exact ⟨⟨k + 1, by omega, by go_num, fun j m m' hj hj' hjk => by
          by_cases c : j = k
          · subst c; have h1 := HG.out; have h2 := HG'.out; rw [hj] at h1; rw [hj'] at h2; cases h1; cases h2; rfl
          · exact HU.out j m m' hj hj' (by omega), bD⟩, by first | omega | (simp [intOf]; omega)⟩
      · have HE : Hid (D = false) := by
          rw [← HD.out]
          exact sameM_no (fun e => hsame (by
            have h1 := HG.out; have h2 := HG'.out
            rw [e, h2] at h1; cases h1; exact ⟨rfl, rfl, rfl⟩))
        have HNE := Lib.hid hsame
        clear hsame
        go_upto_region 6 with fail
        refine wp_region_held_drew (S := fun x => wr.drew = x) (by kernel_rfl) rfl (fun hHeld => ?_)
        refine takeL (i := 0) (v := .slice (some ⟨ga, oa, none⟩) n cap) rfl (by kernel_rfl) (by kernel_rfl) (by kernel_rfl) (fun _ _ _ h => h) (Or.inl ⟨by rfl, ?_⟩) (by assumption) ?_
        · intro x hSx; subst hSx; go_simp
        try simp only [Act.put, List.setIfInBounds_toArray, List.set_cons_zero, List.set_cons_succ]
        refine takeL (i := 1) (v := .int .i64 (k : Int)) rfl (by kernel_rfl) (by kernel_rfl) (by kernel_rfl) (fun _ _ _ h => h) (Or.inl ⟨by rfl, ?_⟩) (by assumption) ?_
        · intro x hSx; subst hSx; go_simp
        try simp only [Act.put, List.setIfInBounds_toArray, List.set_cons_zero, List.set_cons_succ]
        refine takeL (i := 2) (v := .pointer (some ⟨ga, oa + k * 3, none⟩)) rfl (by kernel_rfl) (by kernel_rfl) (by kernel_rfl) (fun _ _ _ h => h) (Or.inl ⟨by rfl, ?_⟩) (by assumption) ?_
        · intro x hSx; subst hSx; go_simp
        try simp only [Act.put, List.setIfInBounds_toArray, List.set_cons_zero, List.set_cons_succ]
        refine takeL (i := 3) (v := .agg #[.int .i64 U, .int .i64 F, .string T]) rfl (by kernel_rfl) (by kernel_rfl) (by kernel_rfl) (fun _ _ _ h => h) (Or.inl ⟨by rfl, ?_⟩) (by assumption) ?_
        · intro x hSx; subst hSx; go_simp
        try simp only [Act.put, List.setIfInBounds_toArray, List.set_cons_zero, List.set_cons_succ]
        refine takeL (i := 4) (v := .slice (some ⟨gb, ob, none⟩) n cap2) rfl (by kernel_rfl) (by kernel_rfl) (by kernel_rfl) (fun _ _ _ h => h) (Or.inl ⟨by rfl, ?_⟩) (by assumption) ?_
        · intro x hSx; subst hSx; go_simp
        try simp only [Act.put, List.setIfInBounds_toArray, List.set_cons_zero, List.set_cons_succ]
        refine takeL (i := 5) (v := .int .i64 (k : Int)) rfl (by kernel_rfl) (by kernel_rfl) (by kernel_rfl) (fun _ _ _ h => h) (Or.inl ⟨by rfl, ?_⟩) (by assumption) ?_
        · intro x hSx; subst hSx; go_simp
        try simp only [Act.put, List.setIfInBounds_toArray, List.set_cons_zero, List.set_cons_succ]
        refine takeL (i := 6) (v := .pointer (some ⟨gb, ob + k * 3, none⟩)) rfl (by kernel_rfl) (by kernel_rfl) (by kernel_rfl) (fun _ _ _ h => h) (Or.inl ⟨by rfl, ?_⟩) (by assumption) ?_
        · intro x hSx; subst hSx; go_simp
        try simp only [Act.put, List.setIfInBounds_toArray, List.set_cons_zero, List.set_cons_succ]
        refine takeL (i := 7) (v := .agg #[.int .i64 U', .int .i64 F', .string T']) rfl (by kernel_rfl) (by kernel_rfl) (by kernel_rfl) (fun _ _ _ h => h) (Or.inl ⟨by rfl, ?_⟩) (by assumption) ?_
        · intro x hSx; subst hSx; go_simp
        try simp only [Act.put, List.setIfInBounds_toArray, List.set_cons_zero, List.set_cons_succ]
        refine takeL (i := 8) (v := .bool true) rfl (by kernel_rfl) (by kernel_rfl) (by kernel_rfl) (fun _ _ _ h => h) (Or.inl ⟨by rfl, ?_⟩) (by assumption) ?_
        · intro x hSx; subst hSx; go_simp; exact fun h1 h2 h3 => HNE.out ⟨h1, h2, (ba_same' _ _).1 h3⟩
        try simp only [Act.put, List.setIfInBounds_toArray, List.set_cons_zero, List.set_cons_succ]
        refine wpAnyH_done (by kernel_rfl) ?_ _
        go_wp2
        go_ret
        exact ⟨by rw [HE.out]; rfl, bD⟩
    · go_wp2
      go_ret
      refine ⟨?_, hb⟩
      rw [← HD.out, sameM_all (HN.out.symm.trans HN2.out) (fun j x y h1 h2 => HU.out j x y h1 h2 (by have := (List.getElem?_eq_some_iff.1 h1).1; have := HN.out; omega))]; rfl

set_option maxRecDepth 100000 in
set_option maxHeartbeats 2000000 in
theorem sameBox_any (x y : Bx) (a1 a2 : Option Addr) (n1 n2 c1 c2 : Nat) (w : World) (ha : Rows' mlE w (.slice a1 n1 c1) x.mails) (hb : Rows' mlE w (.slice a2 n2 c2) y.mails) (hl : x.mails.length ≤ 1099511627776) :
    Calls Try.prog 29 #[.agg #[.int .i64 x.valid, .string x.user, .string x.name, .int .i64 x.next, .slice a1 n1 c1], .agg #[.int .i64 y.valid, .string y.user, .string y.name, .int .i64 y.next, .slice a2 n2 c2]] w fun e w' => e = .returned (.bool (sameB x y)) ∧ Below w.heap.size w w' := by
  have b1 : Below w.heap.size w ((w.alloc (.cells #[.int .i64 x.valid, .string x.user, .string x.name, .int .i64 x.next, .slice a1 n1 c1] 28)).alloc (.cells #[.int .i64 y.valid, .string y.user, .string y.name, .int .i64 y.next, .slice a2 n2 c2] 28)) := ((Below.refl _ _).alloc (Nat.le_refl _) _).alloc (by simp) _
  have HE := Lib.hid (fun wx (hx : Below w.heap.size w wx) => equalMails_any x.mails y.mails _ _ wx (ha.later hx) (hb.later hx) hl)
  clear ha hb
  obtain ⟨V, U, M, N, ms⟩ := x
  obtain ⟨V', U', M', N', ms'⟩ := y
  simp only at HE b1 ⊢
  by_cases e0 : V = V'
  case neg =>
    go_enter Try.func29, Try.ntmps29
    go_wp2
    go_ret
    exact ⟨by rw [sameB_no (fun e => e0 (Bx.mk.inj e).1)]; rfl, b1⟩
  subst e0
  by_cases e1 : U = U'
  case neg =>
    have e1' : ¬ (U.toList = U'.toList) := fun h => e1 ((ba_same' _ _).1 h)
    go_enter Try.func29, Try.ntmps29
    go_wp2
    go_ret
    exact ⟨by rw [sameB_no (fun e => e1 (Bx.mk.inj e).2.1)]; rfl, b1⟩
  subst e1
  by_cases e2 : M = M'
  case neg =>
    have e2' : ¬ (M.toList = M'.toList) := fun h => e2 ((ba_same' _ _).1 h)
    go_enter Try.func29, Try.ntmps29
    go_wp2
    go_ret
    exact ⟨by rw [sameB_no (fun e => e2 (Bx.mk.inj e).2.2.1)]; rfl, b1⟩
  subst e2
  by_cases e3 : N = N'
  case neg =>
    go_enter Try.func29, Try.ntmps29
    go_wp2
    go_ret
    exact ⟨by rw [sameB_no (fun e => e3 (Bx.mk.inj e).2.2.2.1)]; rfl, b1⟩
  subst e3
  have HS : Hid (sameB ⟨V, U, M, N, ms⟩ ⟨V, U, M, N, ms'⟩ = sameM ms ms') := by
    by_cases c : ms = ms'
    · subst c; exact (sameB_yes rfl).trans (sameM_yes rfl).symm
    · exact (sameB_no (fun e => c (Bx.mk.inj e).2.2.2.2)).trans (sameM_no c).symm
  rw [HS.out]
  generalize sameM ms ms' = D at HE ⊢
  clear HS
  go_enter Try.func29, Try.ntmps29
  go_wp2_with (go_at_call 39; refine (HE.out _ b1).mono ?_; rintro e w1 ⟨rfl, k1⟩)
  go_ret
  exact ⟨rfl, b1.trans (k1.mono b1.size)⟩

set_option maxRecDepth 100000 in
set_option maxHeartbeats 4000000 in
theorem equalBoxes_any (ps qs : List Bx) (va vb : Value) (w : World) (ha : BRd w va ps) (hb : BRd w vb qs) (hla : ps.length ≤ 1099511627776) (hma : ∀ b ∈ ps, b.mails.length ≤ 1099511627776) :
    Calls Try.prog 28 #[va, vb, .func (.func 29) #[] #[]] w fun e w' => e = .returned (.bool (sameS ps qs)) ∧ Below w.heap.size w w' := by
  obtain ⟨ad, cap, rfl, hrowa⟩ := ha.boxes
  obtain ⟨ad2, cap2, rfl, hrowb⟩ := hb.boxes
  have HA := Lib.hid hrowa
  have HB := Lib.hid hrowb
  have HMA := Lib.hid hma
  clear ha hb hrowa hrowb hma
  obtain ⟨D, hD⟩ : ∃ D, sameS ps qs = D := ⟨_, rfl⟩
  have HD := Lib.hid hD
  rw [hD]
  clear hD
  by_cases hlen : ps.length = qs.length
  case neg =>
    have hne : ¬ ((ps.length : Int) = (qs.length : Int)) := by omega
    go_enter Try.func28, Try.ntmps28
    go_wp2
    go_ret
    exact ⟨by rw [← HD.out, sameS_len hlen]; rfl, Below.refl _ _⟩
  obtain ⟨n, hn⟩ : ∃ n, ps.length = n := ⟨_, rfl⟩
  have hm : qs.length = n := by omega
  have HN := Lib.hid hn
  have HM := Lib.hid hm
  rw [hn] at hla
  rw [hn, hm]
  clear hn hm hlen
  go_enter Try.func28, Try.ntmps28
  go_wp2
  go_loopw [17] (fun iv wr => ∃ i : Nat, i ≤ n ∧ iv = .int .i64 (i : Int) ∧ (∀ (j : Nat) (x y : Bx), ps[j]? = some x → qs[j]? = some y → j < i → x = y) ∧ Below w.heap.size w wr) (fun iv _ => n - (intOf iv).toNat)
  case atStart => exact ⟨0, by omega, rfl, fun j x y _ _ hj => by omega, Below.refl _ _⟩
  case round =>
    obtain ⟨i, hi, rfl, hU, hb⟩ := hrel
    have HU := Lib.hid hU
    clear hU
    by_cases hlt : i < n
    · obtain ⟨x, hgx⟩ : ∃ x, ps[i]? = some x := ⟨_, List.getElem?_eq_getElem (by rw [HN.out]; exact hlt)⟩
      obtain ⟨y, hgy⟩ : ∃ y, qs[i]? = some y := ⟨_, List.getElem?_eq_getElem (by rw [HM.out]; exact hlt)⟩
      obtain ⟨gp, op, a1, n1, c1, rfl, p0, p1, p2, p3, p4, ra⟩ := HA.out _ hb i _ hgx
      obtain ⟨gq, oq, a2, n2, c2, rfl, q0, q1, q2, q3, q4, rb⟩ := HB.out _ (hb.trans ((belNew _ (.cells #[.int .i64 x.valid, .string x.user, .string x.name, .int .i64 x.next, .slice a1 n1 c1] 28)).mono hb.size)) i _ hgy
      have b2 : Below w.heap.size w ((wr.alloc (.cells #[.int .i64 x.valid, .string x.user, .string x.name, .int .i64 x.next, .slice a1 n1 c1] 28)).alloc (.cells #[.int .i64 y.valid, .string y.user, .string y.name, .int .i64 y.next, .slice a2 n2 c2] 28)) := (hb.alloc hb.size _).alloc (by simp; have := hb.size; omega) _
      have HS := Lib.hid (sameBox_any x y a1 a2 n1 n2 c1 c2 _ (ra.later b2) (rb.later b2) (HMA.out x (List.mem_of_getElem? hgx)))
      have HX := Lib.hid hgx
      have HY := Lib.hid hgy
      clear hgx hgy ra rb
      have hi0 : (0 : Int) ≤ (i : Int) := by omega
      have hi1 : (i : Int) < (n : Int) := by omega
      by_cases hxy : x = y
      · have HXY := Lib.hid hxy
        rw [sameB_yes hxy] at HS
        clear hxy
        go_wp2_with (go_at_call 29; refine HS.out.mono ?_; rintro e w1 ⟨rfl, k1⟩)
        go_roundw
        case rel => exact ⟨i + 1, by omega, by go_num, fun j u v h1 h2 hj => by
          by_cases c : j = i
          · subst c
            have e1 := HX.out; have e2 := HY.out; rw [h1] at e1; rw [h2] at e2; cases e1; cases e2
            exact HXY.out
          · exact HU.out j u v h1 h2 (by omega), b2.trans (k1.mono b2.size)⟩
        case measure => simp [intOf]; omega
      · rw [sameB_no hxy] at HS
        have HE : Hid (D = false) := by rw [← HD.out]; exact sameS_part HX.out HY.out hxy
        clear hxy
        go_wp2_with (go_at_call 29; refine HS.out.mono ?_; rintro e w1 ⟨rfl, k1⟩)
        go_ret
        exact ⟨by rw [HE.out]; rfl, b2.trans (k1.mono b2.size)⟩
    · go_wp2
      go_ret
      refine ⟨?_, hb⟩
      rw [← HD.out, sameS_all (HN.out.trans HM.out.symm) (fun j x y h1 h2 => HU.out j x y h1 h2 (by have := (List.getElem?_eq_some_iff.1 h1).1; have := HN.out; omega))]; rfl

set_option maxRecDepth 100000 in
set_option maxHeartbeats 1000000 in
theorem implSameState_any (ps qs : List Bx) (va vb : Value) (w : World) (ha : BRd w va ps) (hb : BRd w vb qs) (hla : ps.length ≤ 1099511627776) (hma : ∀ b ∈ ps, b.mails.length ≤ 1099511627776) :
    Calls Try.prog 16 #[.agg #[va], .agg #[vb]] w fun e w' => e = .returned (.bool (sameS ps qs)) ∧ Below w.heap.size w w' := by
  obtain ⟨ad, cap, rfl, _⟩ := ha.boxes
  obtain ⟨ad2, cap2, rfl, _⟩ := hb.boxes
  have b1 : Below w.heap.size w ((w.alloc (.cells #[.slice ad ps.length cap] 33)).alloc (.cells #[.slice ad2 qs.length cap2] 33)) := ((Below.refl _ _).alloc (Nat.le_refl _) _).alloc (by simp) _
  have HE := Lib.hid (equalBoxes_any ps qs _ _ _ (ha.later b1) (hb.later b1) hla hma)
  clear ha hb hma
  generalize sameS ps qs = D at HE ⊢
  go_enter Try.func16, Try.ntmps16
  go_wp2_with (go_at_call 28; refine HE.out.mono ?_; rintro e w1 ⟨rfl, k1⟩)
  go_ret
  exact ⟨rfl, b1.trans (k1.mono b1.size)⟩

end Go.Proofs.Ythlbokfajiahpac

/- How great boxes are, plainly. -/
namespace Go.Proofs.Ythlbokfajiahpac

/-- The bytes of the texts of mails. -/
def txs : List Ml → Nat
  | [] => 0
  | m :: ms => m.text.size + txs ms
theorem txs_append : ∀ (l m : List Ml), txs (l ++ m) = txs l + txs m
  | [], m => by simp [txs]
  | x :: l, m => by simp [txs, txs_append l m]; omega
theorem txs_take {l : List Ml} {i : Nat} {m : Ml} (h : l[i]? = some m) : txs (l.take (i + 1)) = txs (l.take i) + m.text.size := by
  rw [List.take_add_one, h, txs_append]; simp [txs]
theorem txs_mem : ∀ {l : List Ml} {m : Ml}, m ∈ l → m.text.size ≤ txs l
  | x :: l, m, h => by
    rcases List.mem_cons.1 h with rfl | h
    · simp [txs]
    · have := txs_mem h; simp [txs]; omega
theorem txs_take_le (l : List Ml) (i : Nat) : txs (l.take i) ≤ txs l := by
  have := txs_append (l.take i) (l.drop i)
  rw [List.take_append_drop] at this; omega
/-- A box: its words, its mails and their texts. -/
def bz (b : Bx) : Nat := b.user.size + b.name.size + (b.mails.length + txs b.mails)
def bzs : List Bx → Nat
  | [] => 0
  | b :: bs => bz b + bzs bs
theorem bzs_append : ∀ (l m : List Bx), bzs (l ++ m) = bzs l + bzs m
  | [], m => by simp [bzs]
  | x :: l, m => by simp [bzs, bzs_append l m]; omega
theorem bzs_take {l : List Bx} {i : Nat} {b : Bx} (h : l[i]? = some b) : bzs (l.take (i + 1)) = bzs (l.take i) + bz b := by
  rw [List.take_add_one, h, bzs_append]; simp [bzs]
theorem bzs_mem : ∀ {l : List Bx} {b : Bx}, b ∈ l → bz b ≤ bzs l
  | x :: l, b, h => by
    rcases List.mem_cons.1 h with rfl | h
    · simp [bzs]
    · have := bzs_mem h; simp [bzs]; omega
/-- Texts whose lengths are lengths. -/
def mlShort (m : Ml) : Prop := m.text.size ≤ 9223372036854775807
def bxShort (b : Bx) : Prop := b.user.size ≤ 9223372036854775807 ∧ b.name.size ≤ 9223372036854775807 ∧ b.mails.length ≤ 9223372036854775807 ∧ ∀ m ∈ b.mails, mlShort m
theorem bz_user (b : Bx) : b.user.size ≤ bz b := by unfold bz; omega
theorem bz_name (b : Bx) : b.name.size ≤ bz b := by unfold bz; omega
theorem bz_mails (b : Bx) : b.mails.length ≤ bz b := by unfold bz; omega
theorem bz_text {b : Bx} {m : Ml} (h : m ∈ b.mails) : m.text.size ≤ bz b := by have := txs_mem h; unfold bz; omega

end Go.Proofs.Ythlbokfajiahpac

/- The marks of boxes, plainly. -/
namespace Go.Proofs.Ythlbokfajiahpac

/-- A box with its marks from k on, and the number behind them. -/
def markB (k : Nat) (b : Bx) : Bx := ⟨((k : Nat) : Int), mark (k + 1), mark (k + 2), ((k + 3 : Nat) : Int), marksL (k + 4) b.mails.length⟩
def kB (k : Nat) (b : Bx) : Nat := k + 4 + 3 * b.mails.length
def marksB : Nat → List Bx → List Bx
  | _, [] => []
  | k, b :: bs => markB k b :: marksB (kB k b) bs
def kE : Nat → List Bx → Nat
  | k, [] => k
  | k, b :: bs => kE (kB k b) bs
theorem marksB_length : ∀ (k : Nat) (bs : List Bx), (marksB k bs).length = bs.length
  | _, [] => rfl
  | k, b :: bs => by simp [marksB, marksB_length (kB k b) bs]
theorem kE_le : ∀ (k : Nat) (bs : List Bx), k ≤ kE k bs
  | _, [] => Nat.le_refl _
  | k, b :: bs => by have := kE_le (kB k b) bs; unfold kE; unfold kB at *; omega
theorem kE_take : ∀ (k : Nat) (bs : List Bx) (i : Nat) (b : Bx), bs[i]? = some b → kE k (bs.take (i + 1)) = kB (kE k (bs.take i)) b
  | _, [], i, b, h => by cases h
  | k, c :: bs, 0, b, h => by cases h; rfl
  | k, c :: bs, i + 1, b, h => by
    show kE (kB k c) (bs.take (i + 1)) = kB (kE (kB k c) (bs.take i)) b
    exact kE_take (kB k c) bs i b h
theorem kE_take_le (k : Nat) (bs : List Bx) : ∀ i, kE k (bs.take i) ≤ kE k bs := by
  induction bs generalizing k with
  | nil => intro i; simp [kE]
  | cons b bs ih =>
    intro i
    cases i with
    | zero => exact kE_le k (b :: bs)
    | succ i => exact ih (kB k b) i
theorem marksB_at : ∀ (k : Nat) (bs : List Bx) (i : Nat) (b : Bx), bs[i]? = some b → (marksB k bs)[i]? = some (markB (kE k (bs.take i)) b)
  | _, [], i, b, h => by cases h
  | k, c :: bs, 0, b, h => by cases h; rfl
  | k, c :: bs, i + 1, b, h => by
    show (marksB (kB k c) bs)[i]? = some (markB (kE (kB k c) (bs.take i)) b)
    exact marksB_at (kB k c) bs i b h
/-- The first i marked. -/
def putB (k : Nat) (bs : List Bx) (i : Nat) : List Bx := (marksB k bs).take i ++ bs.drop i
theorem putB_zero (k : Nat) (bs : List Bx) : putB k bs 0 = bs := by simp [putB]
theorem putB_all (k : Nat) (bs : List Bx) : putB k bs bs.length = marksB k bs := by
  unfold putB
  rw [List.take_of_length_le (by rw [marksB_length]; exact Nat.le_refl _), List.drop_length, List.append_nil]
theorem putB_length (k : Nat) (bs : List Bx) (i : Nat) (h : i ≤ bs.length) : (putB k bs i).length = bs.length := by
  unfold putB
  rw [List.length_append, List.length_take, List.length_drop, marksB_length]; omega
theorem putB_at (k : Nat) (bs : List Bx) (i : Nat) (b : Bx) (h : bs[i]? = some b) : (putB k bs i)[i]? = some b := by
  have hl : i < bs.length := (List.getElem?_eq_some_iff.1 h).1
  unfold putB
  rw [List.getElem?_append_right (by rw [List.length_take, marksB_length]; omega), List.length_take, marksB_length, Nat.min_eq_left (Nat.le_of_lt hl), Nat.sub_self, List.getElem?_drop, Nat.add_zero]
  exact h
theorem putB_set (k : Nat) (bs : List Bx) (i : Nat) (b : Bx) (h : bs[i]? = some b) : (putB k bs i).set i (markB (kE k (bs.take i)) b) = putB k bs (i + 1) := by
  have hl : i < bs.length := (List.getElem?_eq_some_iff.1 h).1
  unfold putB
  rw [List.set_append_right _ _ (by rw [List.length_take, marksB_length]; omega)]
  rw [List.length_take, marksB_length, Nat.min_eq_left (Nat.le_of_lt hl), Nat.sub_self, List.drop_eq_getElem_cons hl, List.set_cons_zero, List.take_add_one, marksB_at k bs i b h, List.append_assoc]
  rfl
end Go.Proofs.Ythlbokfajiahpac

/- The helpers of the exact laws over boxes and states: each is marked, and the marks are held. -/
namespace Go.Proofs.Ythlbokfajiahpac
open Go.RowKit

theorem set_ways {α : Type} {l : List α} {i j : Nat} {y z : α} (h : (l.set i y)[j]? = some z) : (j = i ∧ z = y) ∨ (j ≠ i ∧ l[j]? = some z) := by
  by_cases c : j = i
  · subst c
    have hl : j < l.length := by have := (List.getElem?_eq_some_iff.1 h).1; simpa using this
    rw [List.getElem?_set_self hl] at h
    exact .inl ⟨rfl, (Option.some.inj h).symm⟩
  · rw [List.getElem?_set_ne (fun e => c e.symm)] at h
    exact .inr ⟨c, h⟩

/-- One cell of a box's own put anew. -/
theorem StO.store {B : Nat} {w : World} {g n cap : Nat} {bs : List Bx} {hs : List BxH} (h : StO B w (.slice (some ⟨g, 0, none⟩) n cap) bs hs) (hn : n = hs.length) {i : Nat} {x : BxH} (hx : hs[i]? = some x) {b : Bx} (hb : bs[i]? = some b)
    (c : Nat) (hc : c < 5) (u : Value) (x' : BxH) (hf : hdE.f x' = (hdE.f x).set c u) (hmv : x'.mv = x.mv) (b' : Bx) (hb' : x'.valid = b'.valid ∧ x'.user = b'.user ∧ x'.name = b'.name ∧ x'.next = b'.next) (hm : b'.mails = b.mails) :
    StO B (w.setCell ⟨g, i * 5 + c, none⟩ u) (.slice (some ⟨g, 0, none⟩) n cap) (bs.set i b') (hs.set i x') := by
  subst hn
  have hg := grownBy_store w g (i * 5 + c) u
  have kept : ∀ (m : Value) (l : List Ml), RBuf mlE B w w m l → (∀ k, m.ownBlock = some k → (Value.slice (some ⟨g, 0, none⟩) hs.length cap).ownBlock ≠ some k) → RBuf mlE B (w.setCell ⟨g, i * 5 + c, none⟩ u) (w.setCell ⟨g, i * 5 + c, none⟩ u) m l := fun m l hm hf => by
    refine hm.shift hg ?_
    cases hmb : m.ownBlock with
    | none => exact .inl rfl
    | some k => exact .inr (fun e => hf k hmb e.symm)
  have hmvs : ∀ {j : Nat} {y : BxH}, (hs.set i x')[j]? = some y → ∃ z, hs[j]? = some z ∧ y.mv = z.mv := fun {j y} hj => by
    rcases set_ways hj with ⟨rfl, rfl⟩ | ⟨_, hj⟩
    · exact ⟨x, hx, hmv⟩
    · exact ⟨y, hj, rfl⟩
  refine ⟨(h.row.stored i x x' hx c hc u hf).here, by simp [h.len], fun j y d h1 h2 => ?_, fun j y h1 k hk => ?_, fun j k y z h1 h2 hjk q hq => ?_⟩
  · rcases set_ways h1 with ⟨rfl, rfl⟩ | ⟨hne, h1⟩
    · rcases set_ways h2 with ⟨_, rfl⟩ | ⟨hne, _⟩
      · refine ⟨hb', ?_⟩
        rw [hmv, hm]
        exact kept _ _ (h.at' j x b hx hb).2 (h.far j x hx)
      · exact absurd rfl hne
    · rcases set_ways h2 with ⟨e, _⟩ | ⟨_, h2⟩
      · exact absurd e hne
      · exact ⟨(h.at' j y d h1 h2).1, kept _ _ (h.at' j y d h1 h2).2 (h.far j y h1)⟩
  · obtain ⟨z, hz, e⟩ := hmvs h1
    rw [e] at hk
    exact h.far j z hz k hk
  · obtain ⟨y0, hy0, e1⟩ := hmvs h1
    obtain ⟨z0, hz0, e2⟩ := hmvs h2
    rw [e1] at hq
    rw [e2]
    exact h.apart j k y0 z0 hy0 hz0 hjk q hq

/-- The mails of a box put anew. -/
theorem StO.mails {B : Nat} {w w' : World} {v : Value} {bs : List Bx} {hs : List BxH} (h : StO B w v bs hs) {i : Nat} {x : BxH} (hx : hs[i]? = some x) {b : Bx} (hb : bs[i]? = some b) (ms : List Ml) (hr : RBuf mlE B w' w' x.mv ms) (hg : w.grownBy w' x.mv.ownBlock) :
    StO B w' v (bs.set i ⟨b.valid, b.user, b.name, b.next, ms⟩) hs := by
  refine ⟨h.row.shift hg ?_, by simp [h.len], fun j y d h1 h2 => ?_, h.far, h.apart⟩
  · cases hv : x.mv.ownBlock with
    | none =>
      cases hv2 : v.ownBlock with
      | none => exact .inl rfl
      | some k => exact .inr (fun e => by cases e)
    | some k => exact .inr (fun e => h.far i x hx k hv e)
  · rcases set_ways h2 with ⟨rfl, rfl⟩ | ⟨hne, h2⟩
    · rw [hx] at h1
      cases h1
      exact ⟨(h.at' j x b hx hb).1, hr⟩
    · refine ⟨(h.at' j y d h1 h2).1, (h.at' j y d h1 h2).2.shift hg ?_⟩
      cases hy : y.mv.ownBlock with
      | none => exact .inl rfl
      | some k => exact .inr (fun e => h.apart j i y x h1 hx hne k hy e.symm)

theorem StO.cellAt {B : Nat} {w : World} {g n cap : Nat} {bs : List Bx} {hs : List BxH} (h : StO B w (.slice (some ⟨g, 0, none⟩) n cap) bs hs) {i : Nat} {y : BxH} (hy : hs[i]? = some y) (hl : n = hs.length) (q : Nat) (u : Value) (hu : (hdE.f y)[q]? = some u) : w.cell? ⟨g, i * 5 + q, none⟩ = some u ∧ w.frozen? ⟨g, i * 5 + q, none⟩ = false := by
  subst hl
  exact ⟨h.row.cell rfl i y hy q u hu, h.row.loose _⟩

set_option maxRecDepth 100000 in
set_option maxHeartbeats 4000000 in
theorem markBoxS_any (bs : List Bx) (v : Value) (k B : Nat) (hs : List BxH) (w : World) (h : StO B w v bs hs) (_hk : 1 ≤ k) (hk2 : kE k bs ≤ 1099511627776) (hl : bs.length ≤ 1099511627776) :
    Calls Try.prog 25 #[v, .int .i64 (k : Int)] w fun e w' => e = .returned (.int .i64 (kE k bs : Int)) ∧ (∃ hs', StO B w' v (marksB k bs) hs') ∧ Below B w w' ∧ (∀ q, q < w.heap.size → v.ownBlock ≠ some q → (∀ (j : Nat) (x : BxH), hs[j]? = some x → x.mv.ownBlock ≠ some q) → w'.heap[q]? = w.heap[q]?) := by
  have hB := h.row.le
  have hl0 := h.len
  rcases h.row.own.2 with ⟨rfl, h0⟩ | ⟨g, cap, cur, rfl, hg, hh, hnc, hcp, hcs, htake⟩
  · obtain rfl := List.length_eq_zero_iff.1 h0
    obtain rfl := List.length_eq_zero_iff.1 hl0.symm
    go_enter Try.func25, Try.ntmps25
    go_wp2
    go_loop [1, 5] (fun kv iv => kv = .int .i64 (k : Int) ∧ iv = .int .i64 0) (fun _ _ => 0)
    case atStart => exact ⟨rfl, rfl⟩
    case round =>
      obtain ⟨rfl, rfl⟩ := hrel
      go_wp2
      go_ret
      exact ⟨rfl, ⟨[], h⟩, Below.refl _ _, by intros; rfl⟩
  · clear hh hcs htake hcp
    rw [hl0] at h ⊢
    go_enter Try.func25, Try.ntmps25
    go_wp2
    go_loopw [1, 5] (fun kv iv wr => ∃ (i : Nat) (hs' : List BxH), i ≤ bs.length ∧ iv = .int .i64 (i : Int) ∧ kv = .int .i64 ((kE k (bs.take i) : Nat) : Int) ∧ StO B wr (.slice (some ⟨g, 0, none⟩) bs.length cap) (putB k bs i) hs' ∧ Below B w wr ∧ (∀ (j : Nat) (y : BxH), hs'[j]? = some y → ∃ x, hs[j]? = some x ∧ y.mv = x.mv) ∧ ∀ q, q < w.heap.size → q ≠ g → (∀ (j : Nat) (x : BxH), hs[j]? = some x → x.mv.ownBlock ≠ some q) → wr.heap[q]? = w.heap[q]?) (fun _ iv _ => bs.length - (intOf iv).toNat)
    case atStart => exact ⟨0, hs, by omega, rfl, rfl, by rw [putB_zero]; exact h, Below.refl _ _, fun j y hy => ⟨y, hy, rfl⟩, fun _ _ _ _ => rfl⟩
    case round =>
      clear h
      obtain ⟨i, hs', hi, rfl, rfl, S, hb, hmv, hkp⟩ := hrel
      have HMV := Lib.hid hmv
      have HKP := Lib.hid hkp
      clear hmv hkp
      by_cases hlt : i < bs.length
      · have hgb : bs[i]? = some bs[i] := List.getElem?_eq_getElem hlt
        have hpl := putB_length k bs i hi
        have hn : bs.length = hs'.length := by rw [S.len, hpl]
        have hpa := putB_at k bs i _ hgb
        have hx : hs'[i]? = some (hs'[i]'(by omega)) := List.getElem?_eq_getElem (by omega)
        have hset := putB_set k bs i _ hgb
        have hkt := kE_take k bs i _ hgb
        have hkl := kE_take_le k bs (i + 1)
        have hkg := kE_le k (bs.take i)
        generalize bs[i] = b at *
        generalize hs'[i]'(by omega) = x at hx
        obtain ⟨K, hK⟩ : ∃ K, kE k (bs.take i) = K := ⟨_, rfl⟩
        rw [hK] at hset hkt hkg ⊢
        have HK := Lib.hid hkt
        have HSET := Lib.hid hset
        rw [hkt] at hkl
        unfold kB at hkl
        obtain ⟨⟨e1, e2, e3, e4⟩, hmr⟩ := S.at' i x b hx hpa
        clear hset hkt hK hgb
        have hi0 : (0 : Int) ≤ (i : Int) := by omega
        have hi1 : (i : Int) < (bs.length : Int) := by omega
        obtain ⟨xv, xu, xn, xx, xa, xl, xc⟩ := x
        simp only at e1 e2 e3 e4
        have hn1 : ∀ y : BxH, bs.length = (hs'.set i y).length := fun y => by simp; omega
        have hil : i < hs'.length := by omega
        have hip : i < (putB k bs i).length := by omega
        have gx : ∀ y : BxH, (hs'.set i y)[i]? = some y := fun y => List.getElem?_set_self hil
        have gb : ∀ y : Bx, ((putB k bs i).set i y)[i]? = some y := fun y => List.getElem?_set_self hip
        have S1 : StO B (wr.setCell ⟨g, i * 5, none⟩ (.int .i64 (K : Int))) (.slice (some ⟨g, 0, none⟩) bs.length cap) ((putB k bs i).set i ⟨K, b.user, b.name, b.next, b.mails⟩) (hs'.set i ⟨K, xu, xn, xx, xa, xl, xc⟩) :=
          S.store hn hx hpa 0 (by decide) (.int .i64 (K : Int)) ⟨K, xu, xn, xx, xa, xl, xc⟩ rfl rfl ⟨K, b.user, b.name, b.next, b.mails⟩ ⟨rfl, e2, e3, e4⟩ rfl
        obtain ⟨c0, f0⟩ := S.cellAt hx hn 0 _ rfl
        simp only [Nat.add_zero] at c0 f0
        have hgB := hg
        have HBS : Hid (w.heap.size ≤ wr.heap.size) := hb.size
        have b1 : Below B w (wr.setCell ⟨g, i * 5, none⟩ (.int .i64 (K : Int))) := hb.setCell (p := ⟨g, i * 5, none⟩) hgB _
        have G1 : wr.grownBy (wr.setCell ⟨g, i * 5, none⟩ (.int .i64 (K : Int))) (some g) := grownBy_store _ _ _ _
        have HMX : Hid (∃ x0, hs[i]? = some x0 ∧ (⟨xv, xu, xn, xx, xa, xl, xc⟩ : BxH).mv = x0.mv) := HMV.out i _ hx
        clear S hb
        have HN1 := Lib.hid hn1
        clear hn hpl hil hip
        have HGX := Lib.hid gx
        have HGB := Lib.hid gb
        clear hn1 gx gb
        go_wp2_with fail
        clear c0 f0
        generalize wr.setCell ⟨g, i * 5, none⟩ (.int .i64 (K : Int)) = X1 at S1 b1 G1 ⊢
        refine (markText_at _ (K + 1) _ (by omega) (by omega) (by omega)).mono ?_
        rintro e w2 ⟨rfl, k2⟩
        replace S1 := S1.later k2
        have b2 := b1.trans (k2.mono (Nat.le_trans hB b1.size))
        obtain ⟨c0, f0⟩ := S1.cellAt (HGX.out _) (HN1.out _) 1 _ rfl
        have S2 := S1.store (HN1.out _) (HGX.out _) (HGB.out _) 1 (by decide) (.string (mark (K + 1))) ⟨K, mark (K + 1), xn, xx, xa, xl, xc⟩ rfl rfl ⟨K, mark (K + 1), b.name, b.next, b.mails⟩ ⟨rfl, rfl, e3, e4⟩ rfl
        rw [List.set_set, List.set_set] at S2
        replace b2 : Below B w (w2.setCell ⟨g, i * 5 + 1, none⟩ (.string (mark (K + 1)))) := b2.setCell (p := ⟨g, i * 5 + 1, none⟩) hgB _
        have G2 := (G1.trans (grownBy_of_below k2 (some g))).trans (grownBy_store w2 g (i * 5 + 1) (.string (mark (K + 1))))
        clear S1 b1 k2 G1
        go_wp2_with fail
        clear c0 f0
        generalize w2.setCell ⟨g, i * 5 + 1, none⟩ (.string (mark (K + 1))) = X2 at S2 b2 G2 ⊢
        refine (markText_at _ (K + 2) _ (by omega) (by omega) (by omega)).mono ?_
        rintro e w3 ⟨rfl, k3⟩
        replace S2 := S2.later k3
        have b3 := b2.trans (k3.mono (Nat.le_trans hB b2.size))
        obtain ⟨c0, f0⟩ := S2.cellAt (HGX.out _) (HN1.out _) 2 _ rfl
        have S3 := S2.store (HN1.out _) (HGX.out _) (HGB.out _) 2 (by decide) (.string (mark (K + 2))) ⟨K, mark (K + 1), mark (K + 2), xx, xa, xl, xc⟩ rfl rfl ⟨K, mark (K + 1), mark (K + 2), b.next, b.mails⟩ ⟨rfl, rfl, rfl, e4⟩ rfl
        rw [List.set_set, List.set_set] at S3
        obtain ⟨c3, f3⟩ := S3.cellAt (HGX.out _) (HN1.out _) 3 _ rfl
        replace b3 : Below B w (w3.setCell ⟨g, i * 5 + 2, none⟩ (.string (mark (K + 2)))) := b3.setCell (p := ⟨g, i * 5 + 2, none⟩) hgB _
        have S4 := S3.store (HN1.out _) (HGX.out _) (HGB.out _) 3 (by decide) (.int .i64 ((K : Int) + 1 + 1 + 1)) ⟨K, mark (K + 1), mark (K + 2), (K : Int) + 1 + 1 + 1, xa, xl, xc⟩ rfl rfl ⟨K, mark (K + 1), mark (K + 2), (K : Int) + 1 + 1 + 1, b.mails⟩ ⟨rfl, rfl, rfl, rfl⟩ rfl
        rw [List.set_set, List.set_set] at S4
        obtain ⟨c4, f4⟩ := S4.cellAt (HGX.out _) (HN1.out _) 4 _ rfl
        have G3 := ((G2.trans (grownBy_of_below k3 (some g))).trans (grownBy_store w3 g (i * 5 + 2) (.string (mark (K + 2))))).trans (grownBy_store _ g (i * 5 + 3) (.int .i64 ((K : Int) + 1 + 1 + 1)))
        clear S2 b2 k3 G2
        have b4 : Below B w ((w3.setCell ⟨g, i * 5 + 2, none⟩ (.string (mark (K + 2)))).setCell ⟨g, i * 5 + 3, none⟩ (.int .i64 ((K : Int) + 1 + 1 + 1))) := b3.setCell (p := ⟨g, i * 5 + 3, none⟩) hgB _
        go_wp2_with fail
        clear c0 f0 c3 f3 c4 f4 S3 b3
        generalize (w3.setCell ⟨g, i * 5 + 2, none⟩ (.string (mark (K + 2)))).setCell ⟨g, i * 5 + 3, none⟩ (.int .i64 ((K : Int) + 1 + 1 + 1)) = X4 at S4 b4 G3 ⊢
        have hK4 : (K : Int) + 1 + 1 + 1 + 1 = ((K + 4 : Nat) : Int) := by omega
        rw [hK4]
        have hmr4 := (S4.at' i _ _ (HGX.out _) (HGB.out _)).2
        refine (markMailS_any b.mails _ (K + 4) B X4 X4 hmr4 (by omega) (by omega)).mono ?_
        rintro e w5 ⟨rfl, r5, g5⟩
        have S5 := S4.mails (HGX.out _) (HGB.out _) _ r5.here g5
        rw [List.set_set] at S5
        have b5 : Below B w w5 := b4.grown g5 (Nat.le_trans hB b4.size) (fun q hq => (hmr4.own.lt q hq).1)
        have HKN : Hid (∀ q, q < w.heap.size → q ≠ g → (∀ (j : Nat) (x : BxH), hs[j]? = some x → x.mv.ownBlock ≠ some q) → w5.heap[q]? = w.heap[q]?) := fun q hq hqg hqm => by
          obtain ⟨x0, hx0, ex⟩ := HMX.out
          have hwr : q < wr.heap.size := Nat.lt_of_lt_of_le hq HBS.out
          have e1 := g5.block q (Nat.lt_of_lt_of_le hwr G3.size) (fun e => hqm i x0 hx0 (by rw [← ex]; exact e.symm))
          have e2 := G3.block q hwr (fun e => hqg (Option.some.inj e))
          exact (e1.trans e2).trans (HKP.out q hq hqg hqm)
        have HMN : Hid (∀ (j : Nat) (y : BxH), (hs'.set i ⟨K, mark (K + 1), mark (K + 2), (K : Int) + 1 + 1 + 1, xa, xl, xc⟩)[j]? = some y → ∃ x, hs[j]? = some x ∧ y.mv = x.mv) := fun j y hy => by
          rcases set_ways hy with ⟨rfl, rfl⟩ | ⟨_, hy⟩
          · exact HMX.out
          · exact HMV.out j y hy
        have hmk : (⟨(K : Int), mark (K + 1), mark (K + 2), (K : Int) + 1 + 1 + 1, marksL (K + 4) b.mails.length⟩ : Bx) = markB K b := by
          unfold markB
          rw [show (K : Int) + 1 + 1 + 1 = ((K + 3 : Nat) : Int) by omega]
        rw [hmk, HSET.out] at S5
        have HS5 := Lib.hid S5
        clear S5 S4 r5 g5 b4 hmr4 hmk G3
        go_wp2
        exact ⟨⟨i + 1, _, by omega, by simp, by rw [HK.out]; rfl, HS5.out, b5, HMN.out, HKN.out⟩, by first | omega | (simp [intOf]; omega)⟩
      · have hge : ¬ (i : Int) < (bs.length : Int) := by omega
        have hil : i = bs.length := by omega
        have HE : Hid (kE k bs = kE k (bs.take i) ∧ putB k bs i = marksB k bs) := ⟨by rw [hil, List.take_length], by rw [hil, putB_all]⟩
        rw [HE.out.2] at S
        have HS := Lib.hid S
        clear S
        go_wp2
        go_ret
        exact ⟨by rw [HE.out.1]; rfl, ⟨_, HS.out⟩, hb, fun q hq hqv hqm => HKP.out q hq (fun e => hqv (by rw [e]; rfl)) hqm⟩


end Go.Proofs.Ythlbokfajiahpac

/- Lists copied element by element. -/
namespace Go.Proofs.Ythlbokfajiahpac
open Go.RowKit

/-- The first i elements of l, then nothing yet. -/
def copyTo {α : Type} (z : α) (l : List α) (i : Nat) : List α := l.take i ++ List.replicate (l.length - i) z
theorem copyTo_length {α : Type} {z : α} {l : List α} {i : Nat} (h : i ≤ l.length) : (copyTo z l i).length = l.length := by simp [copyTo]; omega
theorem copyTo_zero {α : Type} (z : α) (l : List α) : copyTo z l 0 = List.replicate l.length z := by simp [copyTo]
theorem copyTo_all {α : Type} {z : α} {l : List α} {i : Nat} (h : l.length ≤ i) : copyTo z l i = l := by
  rw [copyTo, List.take_of_length_le h, show l.length - i = 0 by omega]; simp
theorem copyTo_at {α : Type} {z : α} {l : List α} {i : Nat} (h : i < l.length) : (copyTo z l i)[i]? = some z := by
  have hm : (l.take i).length = i := by simp; omega
  rw [copyTo, List.getElem?_append_right (by omega), hm, Nat.sub_self, List.getElem?_replicate, if_pos (by omega)]
theorem copyTo_set {α : Type} {z : α} {l : List α} {i : Nat} (h : i < l.length) : (copyTo z l i).set i l[i] = copyTo z l (i + 1) := by
  have hm : (l.take i).length = i := by simp; omega
  rw [copyTo, List.set_append_right _ _ (by omega), hm, Nat.sub_self, copyTo, List.take_succ_eq_append_getElem h, List.append_assoc]
  have : l.length - i = (l.length - (i + 1)) + 1 := by omega
  rw [this, List.replicate_succ]
  rfl

theorem Rows'.at {α : Type} {E : Enc α} {w : World} {a : Option Addr} {cap : Nat} {l : List α} (h : Rows' E w (.slice a l.length cap) l) (i : Nat) (hi : i < l.length) :
    ∃ g off : Nat, a = some ⟨g, off, none⟩ ∧ ∀ w', Below w.heap.size w w' → ∀ k u, (E.f l[i])[k]? = some u → w'.cell? ⟨g, off + i * E.sz + k, none⟩ = some u := by
  rcases h.ways with ⟨h0, _⟩ | ⟨_, g, off, c, hv, hc, hg, hcl⟩
  · rw [h0] at hi; simp at hi
  · simp only [Value.slice.injEq] at hv
    exact ⟨g, off, hv.1, fun w' hb k u hu => (hb.cell (p := ⟨g, off + i * E.sz + k, none⟩) hg).trans (hcl i _ (List.getElem?_eq_getElem hi) k u hu)⟩

end Go.Proofs.Ythlbokfajiahpac

/- A list that can be read, appended to one of the call's own. -/
namespace Go.Proofs.Ythlbokfajiahpac
open Go.RowKit

variable {α : Type} {E : Enc α}

theorem run_append_zero {P : Program} {w : World} (base : Nat) (t ty e : TypeId) (i : TypeInfo) (size : Nat) (ht : P.underlying t = some (.slice e)) (hi : P.info? e = some i)
    (v : Value) (n : Nat) (xs : List Value) (hown : w.ownsRow base e size v n xs) (a : Option Addr) (c : Nat) :
    (Builtin.append_ #[t, t] ty #[v, .slice a 0 c]).run P w = .ok v w := by
  rcases hown.2 with ⟨rfl, rfl⟩ | ⟨g, cap, cur, rfl, _, _, hnc, _⟩
  · cases a <;> simp [Builtin.append_, run_underlying ht, sizeOf, typeInfo, hi, Builtin.lenOf, Builtin.firstCells, loadCells, loadCellsFrom]
  · cases a <;> simp [Builtin.append_, run_underlying ht, sizeOf, typeInfo, hi, Builtin.lenOf, Builtin.firstCells, hnc, storeCells, loadCells, loadCellsFrom]

theorem run_append_rd {w : World} (ty : TypeId) (B : Nat) (v : Value) (l : List α) (hb : RBuf E B w w v l) (vx : Value) (m : List α) (hx : Rows' E w vx m)
    (hlen : (l.length + m.length) * (E.bytes + 1) ≤ 140737488355328) :
    ∃ v' w', (Builtin.append_ #[E.sty, E.sty] ty #[v, vx]).run Try.prog w = .ok v' w' ∧ RBuf E B w' w' v' (l ++ m) ∧ w.grownBy w' v.ownBlock ∧ (v'.ownBlock = v.ownBlock ∨ v'.ownBlock = some w.heap.size) := by
  obtain ⟨i0, hi, hz0, hz1, hz2⟩ := info_parts E.info
  have e0 : (l.length + m.length) * (E.bytes + 1) = (l.length + m.length) * E.bytes + (l.length + m.length) := Nat.mul_succ _ _
  rcases hx with ⟨rfl, a, c, rfl⟩ | ⟨g, off, cap, rfl, hc, hg, hcl⟩
  · exact ⟨v, w, run_append_zero (P := Try.prog) B E.sty ty E.ty i0 E.sz E.und hi v l.length (E.row l) hb.own a c, by simpa using hb, World.grownBy.refl _ _, .inl rfl⟩
  · obtain ⟨v', w', h1, h2, h3, _, h5⟩ := run_append_own_at (P := Try.prog) w B E.sty ty E.ty i0 E.zero E.sz E.bytes E.und hi hz0 hz1 hz2 E.zc E.pos v l.length (E.row l) hb.own ⟨g, off, none⟩ m.length cap (E.row m) (E.row_length m)
      (fun j u hu => by
        have hjl : j < m.length * E.sz := by have := (List.getElem?_eq_some_iff.1 hu).1; rwa [E.row_length] at this
        have hp := E.pos
        have hq : j / E.sz < m.length := Nat.div_lt_of_lt_mul (by rw [Nat.mul_comm]; exact hjl)
        have hr : j % E.sz < E.sz := Nat.mod_lt _ hp
        have hj : j / E.sz * E.sz + j % E.sz = j := Nat.div_add_mod' j E.sz
        have hgq : m[j / E.sz]? = some m[j / E.sz] := List.getElem?_eq_getElem hq
        have h6 := E.row_at m (j / E.sz) _ hgq (j % E.sz) hr
        rw [hj, hu] at h6
        have h7 := hcl (j / E.sz) _ hgq (j % E.sz) u h6.symm
        rw [Nat.add_assoc, hj] at h7
        rw [Addr.add_lit]
        exact h7) (E.row_one' m) (by unfold maxLen; omega) (by omega) hb.le
    refine ⟨v', w', h1, ⟨?_, Below.refl _ _, Nat.le_trans hb.le h3.size⟩, h3, h5⟩
    rw [List.length_append, E.row_append]
    exact h2

theorem wp_append_rd {w : World} {o : Oper} {a : Act} {K : Act → World → Prop} {Q : Exit → Act → World → Prop} (s x : Operand) (E : Enc α)
    (ho : o.op = .call { callee := .builtin .append, args := #[s, x], argTypes := #[E.sty, E.sty] })
    (B : Nat) (v : Value) (l : List α) (hs : a.eval s = v) (hb : RBuf E B w w v l) (vx : Value) (m : List α) (hxv : a.eval x = vx) (hx : Rows' E w vx m)
    (hlen : (l.length + m.length) * (E.bytes + 1) ≤ 140737488355328)
    (h : ∀ v' w', RBuf E B w' w' v' (l ++ m) → w.grownBy w' v.ownBlock → (v'.ownBlock = v.ownBlock ∨ v'.ownBlock = some w.heap.size) → K (a.put o.dst v') w') : o.wp Try.prog a w K Q := by
  obtain ⟨v', w', hr, h2, h3, h4⟩ := run_append_rd o.type B v l hb vx m hx hlen
  unfold Oper.wp execOp
  simp only [ho, resolve, invoke, builtin, Sem.run_bind, Sem.run_pure, Result.andThen_ok, List.map_toArray, List.map_cons, List.map_nil, hs, hxv, hr]
  exact h v' w' h2 h3 h4

theorem wpList_append_rd {w : World} {ops : Array Oper} {rest : List Oper} {o : Oper} {a : Act} {Q : Exit → Act → World → Prop} (hgd : o.guard = none) (s x : Operand) (E : Enc α)
    (ho : o.op = .call { callee := .builtin .append, args := #[s, x], argTypes := #[E.sty, E.sty] })
    (B : Nat) (v : Value) (l : List α) (hs : a.eval s = v) (hb : RBuf E B w w v l) (vx : Value) (m : List α) (hxv : a.eval x = vx) (hx : Rows' E w vx m)
    (hlen : (l.length + m.length) * (E.bytes + 1) ≤ 140737488355328)
    (h : ∀ v' w', RBuf E B w' w' v' (l ++ m) → w.grownBy w' v.ownBlock → (v'.ownBlock = v.ownBlock ∨ v'.ownBlock = some w.heap.size) → wpList Try.prog ops Q rest (a.put o.dst v') w') : wpList Try.prog ops Q (o :: rest) a w :=
  wpList_plain hgd fun _ hK => wp_append_rd s x E ho B v l hs hb vx m hxv hx hlen fun v' w' h2 h3 h4 => hK _ _ (h v' w' h2 h3 h4)

end Go.Proofs.Ythlbokfajiahpac

/- What records tell: the model's BoxOf. -/
namespace Go.Proofs.Ythlbokfajiahpac
open Go.RowKit

/-- A store elsewhere leaves a list of the call's own. -/
theorem RBuf.aside {α : Type} {E : Enc α} {B : Nat} {w : World} {v : Value} {l : List α} (h : RBuf E B w w v l) (g i : Nat) (u : Value) (hg : g < B) : RBuf E B (w.setCell ⟨g, i, none⟩ u) (w.setCell ⟨g, i, none⟩ u) v l := by
  refine h.shift (stored_grown w g i u) ?_
  cases hb : v.ownBlock with
  | none => exact .inl rfl
  | some k => exact .inr (fun e => by have := (h.own.lt k hb).1; have := Option.some.inj e; omega)
/-- Five cells stored. -/
def set5 (w : World) (b : Nat) (v0 v1 v2 v3 v4 : Value) : World := ((((w.setCell ⟨b, 0, none⟩ v0).setCell ⟨b, 1, none⟩ v1).setCell ⟨b, 2, none⟩ v2).setCell ⟨b, 3, none⟩ v3).setCell ⟨b, 4, none⟩ v4

set_option maxRecDepth 100000 in
set_option maxHeartbeats 4000000 in
theorem specBox_any (b : Bx) (a1 : Option Addr) (c1 : Nat) (w : World) (h : Rows' mlE w (.slice a1 b.mails.length c1) b.mails) (hl : b.mails.length ≤ 1048576) :
    Calls Try.prog 20 #[.agg #[.int .i64 b.valid, .string b.user, .string b.name, .int .i64 b.next, .slice a1 b.mails.length c1]] w fun e w' => ∃ v, e = .returned (.agg #[.int .i64 b.valid, .string b.user, .string b.name, .int .i64 b.next, v]) ∧ RBuf mlE w.heap.size w' w' v b.mails ∧ Below w.heap.size w w' := by
  have b1 : Below w.heap.size w ((w.alloc (.cells #[.int .i64 b.valid, .string b.user, .string b.name, .int .i64 b.next, .slice a1 b.mails.length c1] 28)).alloc (.cells #[.int .i64 0, .string ⟨#[]⟩, .string ⟨#[]⟩, .int .i64 0, .slice none 0 0] 28)) := ((Below.refl _ _).alloc (Nat.le_refl _) _).alloc (by simp) _
  have X1 := (Box.new w #[.int .i64 b.valid, .string b.user, .string b.name, .int .i64 b.next, .slice a1 b.mails.length c1] 28).later (belNew _ (.cells #[.int .i64 0, .string ⟨#[]⟩, .string ⟨#[]⟩, .int .i64 0, .slice none 0 0] 28))
  have hsz : ((w.alloc (.cells #[.int .i64 b.valid, .string b.user, .string b.name, .int .i64 b.next, .slice a1 b.mails.length c1] 28)).alloc (.cells #[.int .i64 0, .string ⟨#[]⟩, .string ⟨#[]⟩, .int .i64 0, .slice none 0 0] 28)).heap.size = w.heap.size + 2 := by simp
  have X2 : Box ((w.alloc (.cells #[.int .i64 b.valid, .string b.user, .string b.name, .int .i64 b.next, .slice a1 b.mails.length c1] 28)).alloc (.cells #[.int .i64 0, .string ⟨#[]⟩, .string ⟨#[]⟩, .int .i64 0, .slice none 0 0] 28)) (w.heap.size + 1) #[.int .i64 0, .string ⟨#[]⟩, .string ⟨#[]⟩, .int .i64 0, .slice none 0 0] 28 := by
    have := Box.new (w.alloc (.cells #[.int .i64 b.valid, .string b.user, .string b.name, .int .i64 b.next, .slice a1 b.mails.length c1] 28)) #[.int .i64 0, .string ⟨#[]⟩, .string ⟨#[]⟩, .int .i64 0, .slice none 0 0] 28
    rwa [show (w.alloc (.cells #[.int .i64 b.valid, .string b.user, .string b.name, .int .i64 b.next, .slice a1 b.mails.length c1] 28)).heap.size = w.heap.size + 1 from by simp] at this
  have R1 := h.later b1
  go_enter Try.func20, Try.ntmps20
  go_upto_region 1 with fail
  generalize (w.alloc (.cells #[.int .i64 b.valid, .string b.user, .string b.name, .int .i64 b.next, .slice a1 b.mails.length c1] 28)).alloc (.cells #[.int .i64 0, .string ⟨#[]⟩, .string ⟨#[]⟩, .int .i64 0, .slice none 0 0] 28) = w1 at b1 X1 X2 hsz R1 ⊢
  have BW := Lib.hid b1
  have SZ := Lib.hid hsz
  have I0 := (RBuf.fresh mlE w1).here
  have b2 := belNew w1 (.cells #[] 51)
  have H2 := Lib.hid (X2.later b2)
  have H1 := Lib.hid (X1.later b2)
  have x4 : (w1.alloc (.cells #[] 51)).cell? ⟨w.heap.size, 4, none⟩ = some (.slice a1 b.mails.length c1) := H1.out.cell 4 _ rfl
  have HR := Lib.hid (R1.later b2)
  have HI := Lib.hid I0
  clear h b1 X1 X2 hsz R1 I0 b2
  go_wp2_with (at_builtin; refine wpList_append_rd rfl _ _ mlE rfl w1.heap.size _ [] rfl HI.out _ b.mails rfl HR.out ?hl ?_)
  case hl => simp [mlE]; omega
  intro v' w2 hv gv _
  obtain ⟨pv, cv, rfl⟩ := hv.form
  have gv : World.grownBy _ w2 (some w1.heap.size) := gv
  have hlt : w.heap.size < w1.heap.size := by have := SZ.out; omega
  have hlt2 : w.heap.size + 1 < w1.heap.size := by have := SZ.out; omega
  have K1 : Box w2 w.heap.size #[.int .i64 b.valid, .string b.user, .string b.name, .int .i64 b.next, .slice a1 b.mails.length c1] 28 := (gv.block _ H1.out.lt (fun e => by have := Option.some.inj e; omega)).trans H1.out
  have K2 : Box w2 (w.heap.size + 1) #[.int .i64 0, .string ⟨#[]⟩, .string ⟨#[]⟩, .int .i64 0, .slice none 0 0] 28 := (gv.block _ H2.out.lt (fun e => by have := Option.some.inj e; omega)).trans H2.out
  have bG : Below w.heap.size w w2 := (BW.out.alloc BW.out.size _).grown gv (by simp; omega) (fun k hk => by have := Option.some.inj hk; omega)
  have L1 : Box (w2.setCell ⟨w.heap.size, 4, none⟩ (.slice pv b.mails.length cv)) w.heap.size #[.int .i64 b.valid, .string b.user, .string b.name, .int .i64 b.next, .slice pv b.mails.length cv] 28 := K1.set 4 _
  have L2 : Box (w2.setCell ⟨w.heap.size, 4, none⟩ (.slice pv b.mails.length cv)) (w.heap.size + 1) #[.int .i64 0, .string ⟨#[]⟩, .string ⟨#[]⟩, .int .i64 0, .slice none 0 0] 28 := K2.other (by omega) 4 _
  have hv2 := hv.aside w.heap.size 4 (.slice pv b.mails.length cv) hlt
  have bS : Below w.heap.size w (w2.setCell ⟨w.heap.size, 4, none⟩ (.slice pv b.mails.length cv)) := bG.setCell (p := ⟨w.heap.size, 4, none⟩) (Nat.le_refl _) _
  have k4 : w2.cell? ⟨w.heap.size, 4, none⟩ = some (.slice a1 b.mails.length c1) := K1.cell 4 _ rfl
  have f4 : w2.frozen? ⟨w.heap.size, 4, none⟩ = false := K1.loose 4
  have HV := Lib.hid hv2
  have HL := Lib.hid L2
  have HLT := Lib.hid hlt2
  have HBS := Lib.hid bS
  clear K1 K2 bG hv hv2 gv H1 H2 HR HI BW SZ x4 hlt hlt2 L2 bS
  go_upto_region 2 with fail
  generalize w2.setCell ⟨w.heap.size, 4, none⟩ (.slice pv b.mails.length cv) = w3 at L1 HL HBS HV ⊢
  clear f4 k4
  obtain ⟨y0, y1, y2, y3, y4⟩ := L1.five
  obtain ⟨u0, u1, u2, u3, u4⟩ := HL.out.five
  have f0 := HL.out.loose 0
  have f1 := HL.out.loose 1
  have f2 := HL.out.loose 2
  have f3 := HL.out.loose 3
  have f4 := HL.out.loose 4
  have L5 : Box (set5 w3 (w.heap.size + 1) (.int .i64 b.valid) (.string b.user) (.string b.name) (.int .i64 b.next) (.slice pv b.mails.length cv)) (w.heap.size + 1) #[.int .i64 b.valid, .string b.user, .string b.name, .int .i64 b.next, .slice pv b.mails.length cv] 28 := ((((HL.out.set 0 _).set 1 _).set 2 _).set 3 _).set 4 _
  unfold set5 at L5
  obtain ⟨z0, z1, z2, z3, z4⟩ := L5.five
  clear L1 L5
  go_wp2
  refine bodyPost_ret (v := .agg #[.int .i64 b.valid, .string b.user, .string b.name, .int .i64 b.next, .slice pv b.mails.length cv]) (by simp [results, Try.results20, go_sem, z0, z1, z2, z3, z4]) rfl ⟨_, rfl, ?_, ?_⟩
  · exact (((((HV.out.aside _ 0 _ HLT.out).aside _ 1 _ HLT.out).aside _ 2 _ HLT.out).aside _ 3 _ HLT.out).aside _ 4 _ HLT.out).lower (by have := HLT.out; omega)
  · exact ((((HBS.out.setCell (p := ⟨w.heap.size + 1, 0, none⟩) (by simp) _).setCell (p := ⟨w.heap.size + 1, 1, none⟩) (by simp) _).setCell (p := ⟨w.heap.size + 1, 2, none⟩) (by simp) _).setCell (p := ⟨w.heap.size + 1, 3, none⟩) (by simp) _).setCell (p := ⟨w.heap.size + 1, 4, none⟩) (by simp) _

end Go.Proofs.Ythlbokfajiahpac
