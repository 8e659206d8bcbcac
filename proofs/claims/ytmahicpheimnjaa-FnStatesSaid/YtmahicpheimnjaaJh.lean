/- Texts of our own, joined. -/
import Derived.Test.YtmahicpheimnjaaJf
/- What records tell: the model's choice of what tells a box. -/
namespace Go.Proofs.Ytmahicpheimnjaa
open Go.RowKit

theorem tell_yes {p : Itm → Bool} {o : Option Itm} {x : Itm} (h : p x = true) (h2 : o = none ∨ (bestX o).2.next < x.2.next ∨ (x.2.next = (bestX o).2.next ∧ (bestX o).1 < x.1)) : bestStep (fun x => x.2.next) p o x = some x := by
  unfold bestStep; rw [if_pos h]
  cases o with
  | none => rfl
  | some y =>
    have : y.2.next < x.2.next ∨ (x.2.next = y.2.next ∧ y.1 < x.1) := by rcases h2 with h2 | h2; cases h2; exact h2
    exact if_pos (decide_eq_true this)
theorem tell_old {p : Itm → Bool} {o : Option Itm} {x : Itm} (h : p x = true) (h1 : o ≠ none) (h2 : ¬ ((bestX o).2.next < x.2.next ∨ (x.2.next = (bestX o).2.next ∧ (bestX o).1 < x.1))) : bestStep (fun x => x.2.next) p o x = o := by
  unfold bestStep; rw [if_pos h]
  cases o with
  | none => exact absurd rfl h1
  | some y => exact if_neg (fun c => h2 (of_decide_eq_true c))
/-- What has been chosen lies there: its number is none if nothing was. -/
theorem best_zero {k : Itm → Int} {p : Itm → Bool} {l : List Itm} {i : Nat} (hpos : ∀ x ∈ l, x.1 ≠ 0) (h : (bestX (bestO k p (l.take i))).1 = 0) : bestO k p (l.take i) = none := by
  have hI := bestO_I k p (l.take i)
  cases ho : bestO k p (l.take i) with
  | none => rfl
  | some y =>
    rw [ho] at hI h
    exact absurd h (hpos y (List.mem_of_mem_take hI.1))

set_option maxRecDepth 100000 in
set_option maxHeartbeats 2000000 in
theorem specTell_any (l : List Itm) (v : Value) (valid : Int) (w : World) (h : Rows' itE w v l) (hl : l.length ≤ 1099511627776) (hpos : ∀ x ∈ l, x.1 ≠ 0) :
    Calls Try.prog 63 #[v, .int .i64 valid] w fun e w' => e = .returned (itV (bestX (tellO valid l)).1 (bestX (tellO valid l)).2) ∧ Below w.heap.size w w' := by
  obtain ⟨ad, cap, rfl, hrow⟩ : ∃ (ad : Option Addr) (cap : Nat), v = .slice ad l.length cap ∧ ∀ X, Below w.heap.size w X → ∀ i x, l[i]? = some x → ∃ g off, ad = some ⟨g, off, none⟩ ∧ X.cell? ⟨g, off + i * 9, none⟩ = some (.int .i64 x.1) ∧ X.cell? ⟨g, off + i * 9 + 1, none⟩ = some (.int .i64 x.2.kind) ∧ X.cell? ⟨g, off + i * 9 + 2, none⟩ = some (.int .i64 x.2.valid) ∧ X.cell? ⟨g, off + i * 9 + 3, none⟩ = some (.int .i64 x.2.uid) ∧ X.cell? ⟨g, off + i * 9 + 4, none⟩ = some (.int .i64 x.2.next) ∧ X.cell? ⟨g, off + i * 9 + 5, none⟩ = some (.int .i64 x.2.flags) ∧ X.cell? ⟨g, off + i * 9 + 6, none⟩ = some (.string x.2.user) ∧ X.cell? ⟨g, off + i * 9 + 7, none⟩ = some (.string x.2.name) ∧ X.cell? ⟨g, off + i * 9 + 8, none⟩ = some (.string x.2.text) := by
    rcases h.ways with ⟨rfl, a, c, rfl⟩ | ⟨hne, g, off, c, rfl, hc, hg, hcl⟩
    · exact ⟨a, c, rfl, fun X _ i x hi => by cases hi⟩
    · exact ⟨_, c, rfl, fun X hb i x hi => ⟨g, off, rfl, it_cells hcl hg hb i x hi⟩⟩
  have HR := Lib.hid hrow
  clear h hrow
  obtain ⟨p, hp⟩ : ∃ p : Itm → Bool, p = fun x => decide (x.2.kind = 1 ∧ x.2.valid = valid) := ⟨_, rfl⟩
  have hpx : ∀ x, p x = decide (x.2.kind = 1 ∧ x.2.valid = valid) := fun x => by rw [hp]
  have HPX := Lib.hid hpx
  have HZ : Hid (∀ i, (bestX (bestO (fun x => x.2.next) p (l.take i))).1 = 0 → bestO (fun x => x.2.next) p (l.take i) = none) := fun i => best_zero hpos
  have HB : Hid (tellO valid l = bestO (fun x => x.2.next) p (l.take l.length)) := by rw [hp, List.take_length]; rfl
  clear hp hpx hpos
  have I0 : BsI w w.heap.size (w.heap.size + 1) (bestX (bestO (fun x => x.2.next) p (l.take 0))) ((w.alloc (.cells #[.int .i64 0, .int .i64 0, .int .i64 0, .int .i64 0, .int .i64 0, .int .i64 0, .string ⟨#[]⟩, .string ⟨#[]⟩, .string ⟨#[]⟩] 38)).alloc (.cells #[.int .i64 0, .int .i64 0, .int .i64 0, .int .i64 0, .int .i64 0, .int .i64 0, .string ⟨#[]⟩, .string ⟨#[]⟩, .string ⟨#[]⟩] 38)) := by
    have hb := (belNew w (.cells #[.int .i64 0, .int .i64 0, .int .i64 0, .int .i64 0, .int .i64 0, .int .i64 0, .string ⟨#[]⟩, .string ⟨#[]⟩, .string ⟨#[]⟩] 38)).trans ((belNew (w.alloc (.cells #[.int .i64 0, .int .i64 0, .int .i64 0, .int .i64 0, .int .i64 0, .int .i64 0, .string ⟨#[]⟩, .string ⟨#[]⟩, .string ⟨#[]⟩] 38)) (.cells #[.int .i64 0, .int .i64 0, .int .i64 0, .int .i64 0, .int .i64 0, .int .i64 0, .string ⟨#[]⟩, .string ⟨#[]⟩, .string ⟨#[]⟩] 38)).mono (by simp))
    have h2 := Box.new (w.alloc (.cells #[.int .i64 0, .int .i64 0, .int .i64 0, .int .i64 0, .int .i64 0, .int .i64 0, .string ⟨#[]⟩, .string ⟨#[]⟩, .string ⟨#[]⟩] 38)) #[.int .i64 0, .int .i64 0, .int .i64 0, .int .i64 0, .int .i64 0, .int .i64 0, .string ⟨#[]⟩, .string ⟨#[]⟩, .string ⟨#[]⟩] 38
    have e : (w.alloc (.cells #[.int .i64 0, .int .i64 0, .int .i64 0, .int .i64 0, .int .i64 0, .int .i64 0, .string ⟨#[]⟩, .string ⟨#[]⟩, .string ⟨#[]⟩] 38)).heap.size = w.heap.size + 1 := by simp
    rw [e] at h2
    exact ⟨(Box.new w _ _).later (belNew _ _), h2, hb, Nat.le_refl _, by omega, by omega⟩
  go_enter Try.func63, Try.ntmps63
  go_wp2
  generalize (w.alloc (.cells #[.int .i64 0, .int .i64 0, .int .i64 0, .int .i64 0, .int .i64 0, .int .i64 0, .string ⟨#[]⟩, .string ⟨#[]⟩, .string ⟨#[]⟩] 38)).alloc (.cells #[.int .i64 0, .int .i64 0, .int .i64 0, .int .i64 0, .int .i64 0, .int .i64 0, .string ⟨#[]⟩, .string ⟨#[]⟩, .string ⟨#[]⟩] 38) = W at I0 ⊢
  obtain ⟨g1, hg1⟩ : ∃ g1, w.heap.size + 1 = g1 := ⟨_, rfl⟩
  rw [hg1] at I0 ⊢
  clear hg1
  go_loopw [6] (fun iv wr => ∃ i : Nat, i ≤ l.length ∧ iv = .int .i64 (i : Int) ∧ BsI w w.heap.size g1 (bestX (bestO (fun x => x.2.next) p (l.take i))) wr) (fun iv _ => l.length - (intOf iv).toNat)
  case atStart => exact ⟨0, by omega, rfl, I0⟩
  case round =>
    clear I0
    obtain ⟨i, hi, rfl, I⟩ := hrel
    by_cases hlt : i < l.length
    · have hgx : l[i]? = some l[i] := List.getElem?_eq_getElem hlt
      have hst := bestO_take (k := fun x => x.2.next) (p := p) hgx
      have hpx := HPX.out l[i]
      have hz := HZ.out i
      obtain ⟨ga, oa, rfl, a0, a1, a2, a3, a4, a5, a6, a7, a8⟩ := HR.out _ I.bel i _ hgx
      generalize l[i] = x at *
      obtain ⟨sq, K, V, U, N, FL, US, NM, TX⟩ := x
      simp only at a0 a1 a2 a3 a4 a5 a6 a7 a8 hpx
      generalize bestO (fun x => x.2.next) p (l.take i) = o at *
      have HST := Lib.hid hst
      have HZI := Lib.hid hz
      have hi0 : (0 : Int) ≤ (i : Int) := by omega
      have hi1 : (i : Int) < (l.length : Int) := by omega
      clear hst hgx hz
      by_cases hk : K = 1
      · subst hk
        by_cases hv : V = valid
        · have hv := hv.symm
          subst hv
          by_cases hz : (bestX o).1 = 0
          · have J := I.later (belNew wr (.cells #[.int .i64 sq, .int .i64 1, .int .i64 valid, .int .i64 U, .int .i64 N, .int .i64 FL, .string US, .string NM, .string TX] 38))
            obtain ⟨u0, u1, u2, u3, u4, u5, u6, u7, u8, v0, v1, v2, v3, v4, v5, v6, v7, v8⟩ := J.out.nine
            have HJ := Lib.hid J
            clear I J
            have HE : Hid (bestO (fun x => x.2.next) p (l.take (i + 1)) = some (sq, ⟨1, valid, U, N, FL, US, NM, TX⟩)) := by rw [HST.out]; exact tell_yes (by rw [hpx]; exact decide_eq_true ⟨rfl, rfl⟩) (.inl (HZI.out hz))
            clear hpx
            go_wp2
            exact ⟨⟨i + 1, by omega, by simp, by rw [HE.out]; exact HJ.out.put (sq, ⟨1, valid, U, N, FL, US, NM, TX⟩)⟩, by first | omega | (simp [intOf]; omega)⟩
          · have hon : o ≠ none := fun e => hz (by rw [e]; rfl)
            by_cases hn : (bestX o).2.next < N
            · have J := I.later (belNew wr (.cells #[.int .i64 sq, .int .i64 1, .int .i64 valid, .int .i64 U, .int .i64 N, .int .i64 FL, .string US, .string NM, .string TX] 38))
              obtain ⟨u0, u1, u2, u3, u4, u5, u6, u7, u8, v0, v1, v2, v3, v4, v5, v6, v7, v8⟩ := J.out.nine
              have HJ := Lib.hid J
              clear I J
              have HE : Hid (bestO (fun x => x.2.next) p (l.take (i + 1)) = some (sq, ⟨1, valid, U, N, FL, US, NM, TX⟩)) := by rw [HST.out]; exact tell_yes (by rw [hpx]; exact decide_eq_true ⟨rfl, rfl⟩) (.inr (.inl hn))
              clear hpx
              go_wp2
              exact ⟨⟨i + 1, by omega, by simp, by rw [HE.out]; exact HJ.out.put (sq, ⟨1, valid, U, N, FL, US, NM, TX⟩)⟩, by first | omega | (simp [intOf]; omega)⟩
            · by_cases he : N = (bestX o).2.next
              · subst he
                by_cases hs : (bestX o).1 < sq
                · have J := I.later (belNew wr (.cells #[.int .i64 sq, .int .i64 1, .int .i64 valid, .int .i64 U, .int .i64 (bestX o).2.next, .int .i64 FL, .string US, .string NM, .string TX] 38))
                  obtain ⟨u0, u1, u2, u3, u4, u5, u6, u7, u8, v0, v1, v2, v3, v4, v5, v6, v7, v8⟩ := J.out.nine
                  have HJ := Lib.hid J
                  clear I J
                  have HE : Hid (bestO (fun x => x.2.next) p (l.take (i + 1)) = some (sq, ⟨1, valid, U, (bestX o).2.next, FL, US, NM, TX⟩)) := by rw [HST.out]; exact tell_yes (by rw [hpx]; exact decide_eq_true ⟨rfl, rfl⟩) (.inr (.inr ⟨rfl, hs⟩))
                  clear hpx
                  go_wp2
                  exact ⟨⟨i + 1, by omega, by simp, by rw [HE.out]; exact HJ.out.put (sq, ⟨1, valid, U, (bestX o).2.next, FL, US, NM, TX⟩)⟩, by first | omega | (simp [intOf]; omega)⟩
                · have J := I.later (belNew wr (.cells #[.int .i64 sq, .int .i64 1, .int .i64 valid, .int .i64 U, .int .i64 (bestX o).2.next, .int .i64 FL, .string US, .string NM, .string TX] 38))
                  obtain ⟨u0, u1, u2, u3, u4, u5, u6, u7, u8, v0, v1, v2, v3, v4, v5, v6, v7, v8⟩ := J.out.nine
                  have HJ := Lib.hid J
                  clear I J
                  have HE : Hid (bestO (fun x => x.2.next) p (l.take (i + 1)) = o) := by rw [HST.out]; exact tell_old (by rw [hpx]; exact decide_eq_true ⟨rfl, rfl⟩) hon (fun c => by rcases c with c | c; exact hn c; exact hs c.2)
                  clear hpx
                  go_wp2
                  exact ⟨⟨i + 1, by omega, by simp, by rw [HE.out]; exact HJ.out⟩, by first | omega | (simp [intOf]; omega)⟩
              · have J := I.later (belNew wr (.cells #[.int .i64 sq, .int .i64 1, .int .i64 valid, .int .i64 U, .int .i64 N, .int .i64 FL, .string US, .string NM, .string TX] 38))
                obtain ⟨u0, u1, u2, u3, u4, u5, u6, u7, u8, v0, v1, v2, v3, v4, v5, v6, v7, v8⟩ := J.out.nine
                have HJ := Lib.hid J
                clear I J
                have HE : Hid (bestO (fun x => x.2.next) p (l.take (i + 1)) = o) := by rw [HST.out]; exact tell_old (by rw [hpx]; exact decide_eq_true ⟨rfl, rfl⟩) hon (fun c => by rcases c with c | c; exact hn c; exact he c.1)
                clear hpx
                go_wp2
                exact ⟨⟨i + 1, by omega, by simp, by rw [HE.out]; exact HJ.out⟩, by first | omega | (simp [intOf]; omega)⟩
        · have J := I.later (belNew wr (.cells #[.int .i64 sq, .int .i64 1, .int .i64 V, .int .i64 U, .int .i64 N, .int .i64 FL, .string US, .string NM, .string TX] 38))
          obtain ⟨u0, u1, u2, u3, u4, u5, u6, u7, u8, v0, v1, v2, v3, v4, v5, v6, v7, v8⟩ := J.out.nine
          have HJ := Lib.hid J
          clear I J
          have HE : Hid (bestO (fun x => x.2.next) p (l.take (i + 1)) = o) := by rw [HST.out]; exact bestStep_no (by rw [hpx]; exact decide_eq_false (fun c => hv c.2))
          clear hpx
          go_wp2
          exact ⟨⟨i + 1, by omega, by simp, by rw [HE.out]; exact HJ.out⟩, by first | omega | (simp [intOf]; omega)⟩
      · have J := I.later (belNew wr (.cells #[.int .i64 sq, .int .i64 K, .int .i64 V, .int .i64 U, .int .i64 N, .int .i64 FL, .string US, .string NM, .string TX] 38))
        obtain ⟨u0, u1, u2, u3, u4, u5, u6, u7, u8, v0, v1, v2, v3, v4, v5, v6, v7, v8⟩ := J.out.nine
        have HJ := Lib.hid J
        clear I J
        have HE : Hid (bestO (fun x => x.2.next) p (l.take (i + 1)) = o) := by rw [HST.out]; exact bestStep_no (by rw [hpx]; exact decide_eq_false (fun c => hk c.1))
        clear hpx
        go_wp2
        exact ⟨⟨i + 1, by omega, by simp, by rw [HE.out]; exact HJ.out⟩, by first | omega | (simp [intOf]; omega)⟩
    · have hie : i = l.length := by omega
      subst hie
      obtain ⟨u0, u1, u2, u3, u4, u5, u6, u7, u8, v0, v1, v2, v3, v4, v5, v6, v7, v8⟩ := I.out.nine
      obtain ⟨y0, y1, y2, y3, y4, y5, y6, y7, y8, f0, f1, f2, f3, f4, f5, f6, f7, f8⟩ := I.res.nine
      have BB := Lib.hid I.bel
      clear I HZ
      generalize hoo : bestO (fun x => x.2.next) p (l.take l.length) = o at *
      have HO : Hid (tellO valid l = o) := HB.out
      clear hoo HB
      go_wp2
      refine bodyPost_ret (v := .agg #[.int .i64 (bestX o).1, .int .i64 (bestX o).2.kind, .int .i64 (bestX o).2.valid, .int .i64 (bestX o).2.uid, .int .i64 (bestX o).2.next, .int .i64 (bestX o).2.flags, .string (bestX o).2.user, .string (bestX o).2.name, .string (bestX o).2.text]) (by simp [results, Try.results63, go_sem, y0, y1, y2, y3, y4, y5, y6, y7, y8]) rfl ?_
      exact ⟨by rw [HO.out]; rfl, below_set9 BB.out (Nat.le_refl _) _ _ _ _ _ _ _ _ _⟩

end Go.Proofs.Ytmahicpheimnjaa

/- What records tell: the model's number of the next mail. -/
namespace Go.Proofs.Ytmahicpheimnjaa
open Go.RowKit

theorem mostOf_take {b : Int} {f : Itm → Int} {l : List Itm} {i : Nat} {x : Itm} (h : l[i]? = some x) : mostOf b f (l.take (i + 1)) = if mostOf b f (l.take i) < f x then f x else mostOf b f (l.take i) := by
  unfold mostOf
  rw [List.take_add_one, h, List.foldl_append]
  rfl

set_option maxRecDepth 100000 in
set_option maxHeartbeats 2000000 in
theorem specNext_any (l : List Itm) (v : Value) (valid : Int) (w : World) (h : Rows' itE w v l) (hl : l.length ≤ 1099511627776) (hok : ∀ x ∈ l, x.2.ok) :
    Calls Try.prog 64 #[v, .int .i64 valid] w fun e w' => e = .returned (.int .i64 (nextOf valid l)) ∧ Below w.heap.size w w' := by
  obtain ⟨ad, cap, rfl, hrow⟩ : ∃ (ad : Option Addr) (cap : Nat), v = .slice ad l.length cap ∧ ∀ X, Below w.heap.size w X → ∀ i x, l[i]? = some x → ∃ g off, ad = some ⟨g, off, none⟩ ∧ X.cell? ⟨g, off + i * 9, none⟩ = some (.int .i64 x.1) ∧ X.cell? ⟨g, off + i * 9 + 1, none⟩ = some (.int .i64 x.2.kind) ∧ X.cell? ⟨g, off + i * 9 + 2, none⟩ = some (.int .i64 x.2.valid) ∧ X.cell? ⟨g, off + i * 9 + 3, none⟩ = some (.int .i64 x.2.uid) ∧ X.cell? ⟨g, off + i * 9 + 4, none⟩ = some (.int .i64 x.2.next) ∧ X.cell? ⟨g, off + i * 9 + 5, none⟩ = some (.int .i64 x.2.flags) ∧ X.cell? ⟨g, off + i * 9 + 6, none⟩ = some (.string x.2.user) ∧ X.cell? ⟨g, off + i * 9 + 7, none⟩ = some (.string x.2.name) ∧ X.cell? ⟨g, off + i * 9 + 8, none⟩ = some (.string x.2.text) := by
    rcases h.ways with ⟨rfl, a, c, rfl⟩ | ⟨hne, g, off, c, rfl, hc, hg, hcl⟩
    · exact ⟨a, c, rfl, fun X _ i x hi => by cases hi⟩
    · exact ⟨_, c, rfl, fun X hb i x hi => ⟨g, off, rfl, it_cells hcl hg hb i x hi⟩⟩
  have HR := Lib.hid hrow
  have HOK := Lib.hid hok
  have HM : Hid (∀ i, 1 ≤ mostOf 1 (nextK valid) (l.take i)) := fun i => (mostFold (nextK valid) (l.take i) 1).1
  have HB : Hid (nextOf valid l = mostOf 1 (nextK valid) (l.take l.length)) := by rw [List.take_length]; rfl
  clear h hrow hok
  go_enter Try.func64, Try.ntmps64
  go_wp2
  go_loopw [5, 6] (fun nv iv wr => ∃ i : Nat, i ≤ l.length ∧ iv = .int .i64 (i : Int) ∧ nv = .int .i64 (mostOf 1 (nextK valid) (l.take i)) ∧ Below w.heap.size w wr) (fun _ iv _ => l.length - (intOf iv).toNat)
  case atStart => exact ⟨0, by omega, rfl, rfl, Below.refl _ _⟩
  case round =>
    obtain ⟨i, hi, rfl, rfl, hb⟩ := hrel
    by_cases hlt : i < l.length
    · have hgx : l[i]? = some l[i] := List.getElem?_eq_getElem hlt
      have hst := mostOf_take (b := 1) (f := nextK valid) hgx
      have hm := HM.out i
      have hsm := Rc.ok_small (HOK.out l[i] (List.getElem_mem hlt))
      obtain ⟨ga, oa, rfl, a0, a1, a2, a3, a4, a5, a6, a7, a8⟩ := HR.out _ hb i _ hgx
      generalize l[i] = x at *
      obtain ⟨sq, K, V, U, N, FL, US, NM, TX⟩ := x
      simp only at a0 a1 a2 a3 a4 a5 a6 a7 a8 hsm
      obtain ⟨_, _, hU, _, _⟩ := hsm
      generalize mostOf 1 (nextK valid) (l.take i) = n at *
      have HST := Lib.hid hst
      have hi0 : (0 : Int) ≤ (i : Int) := by omega
      have hi1 : (i : Int) < (l.length : Int) := by omega
      clear hst hgx
      by_cases hv : V = valid
      · have hv := hv.symm
        subst hv
        by_cases k1 : K = 1
        · subst k1
          by_cases hn : n < N
          · have BJ := Lib.hid (hb.trans ((belNew wr (.cells #[.int .i64 1, .int .i64 valid, .int .i64 U, .int .i64 N, .int .i64 FL, .string US, .string NM, .string TX] 36)).mono hb.size))
            clear hb
            have HE : Hid (mostOf 1 (nextK valid) (l.take (i + 1)) = N) := by rw [HST.out]; rw [show nextK valid (sq, ⟨1, valid, U, N, FL, US, NM, TX⟩) = N from by simp [nextK]]; exact if_pos hn
            go_wp2
            exact ⟨⟨i + 1, by omega, by simp, by rw [HE.out], BJ.out⟩, by first | omega | (simp [intOf]; omega)⟩
          · have BJ := Lib.hid (hb.trans ((belNew wr (.cells #[.int .i64 1, .int .i64 valid, .int .i64 U, .int .i64 N, .int .i64 FL, .string US, .string NM, .string TX] 36)).mono hb.size))
            clear hb
            have HE : Hid (mostOf 1 (nextK valid) (l.take (i + 1)) = n) := by rw [HST.out]; rw [show nextK valid (sq, ⟨1, valid, U, N, FL, US, NM, TX⟩) = N from by simp [nextK]]; exact if_neg hn
            go_wp2
            exact ⟨⟨i + 1, by omega, by simp, by rw [HE.out], BJ.out⟩, by first | omega | (simp [intOf]; omega)⟩
        · by_cases k3 : K = 3
          · subst k3
            by_cases hn : n < U + 1
            · have BJ := Lib.hid (hb.trans ((belNew wr (.cells #[.int .i64 3, .int .i64 valid, .int .i64 U, .int .i64 N, .int .i64 FL, .string US, .string NM, .string TX] 36)).mono hb.size))
              clear hb
              have HE : Hid (mostOf 1 (nextK valid) (l.take (i + 1)) = U + 1) := by rw [HST.out]; rw [show nextK valid (sq, ⟨3, valid, U, N, FL, US, NM, TX⟩) = U + 1 from by simp [nextK]]; exact if_pos hn
              go_wp2
              exact ⟨⟨i + 1, by omega, by simp, by rw [HE.out], BJ.out⟩, by first | omega | (simp [intOf]; omega)⟩
            · have BJ := Lib.hid (hb.trans ((belNew wr (.cells #[.int .i64 3, .int .i64 valid, .int .i64 U, .int .i64 N, .int .i64 FL, .string US, .string NM, .string TX] 36)).mono hb.size))
              clear hb
              have HE : Hid (mostOf 1 (nextK valid) (l.take (i + 1)) = n) := by rw [HST.out]; rw [show nextK valid (sq, ⟨3, valid, U, N, FL, US, NM, TX⟩) = U + 1 from by simp [nextK]]; exact if_neg hn
              go_wp2
              exact ⟨⟨i + 1, by omega, by simp, by rw [HE.out], BJ.out⟩, by first | omega | (simp [intOf]; omega)⟩
          · by_cases k5 : K = 5
            · subst k5
              by_cases hn : n < U + 1
              · have BJ := Lib.hid (hb.trans ((belNew wr (.cells #[.int .i64 5, .int .i64 valid, .int .i64 U, .int .i64 N, .int .i64 FL, .string US, .string NM, .string TX] 36)).mono hb.size))
                clear hb
                have HE : Hid (mostOf 1 (nextK valid) (l.take (i + 1)) = U + 1) := by rw [HST.out]; rw [show nextK valid (sq, ⟨5, valid, U, N, FL, US, NM, TX⟩) = U + 1 from by simp [nextK]]; exact if_pos hn
                go_wp2
                exact ⟨⟨i + 1, by omega, by simp, by rw [HE.out], BJ.out⟩, by first | omega | (simp [intOf]; omega)⟩
              · have BJ := Lib.hid (hb.trans ((belNew wr (.cells #[.int .i64 5, .int .i64 valid, .int .i64 U, .int .i64 N, .int .i64 FL, .string US, .string NM, .string TX] 36)).mono hb.size))
                clear hb
                have HE : Hid (mostOf 1 (nextK valid) (l.take (i + 1)) = n) := by rw [HST.out]; rw [show nextK valid (sq, ⟨5, valid, U, N, FL, US, NM, TX⟩) = U + 1 from by simp [nextK]]; exact if_neg hn
                go_wp2
                exact ⟨⟨i + 1, by omega, by simp, by rw [HE.out], BJ.out⟩, by first | omega | (simp [intOf]; omega)⟩
            · have BJ := Lib.hid (hb.trans ((belNew wr (.cells #[.int .i64 K, .int .i64 valid, .int .i64 U, .int .i64 N, .int .i64 FL, .string US, .string NM, .string TX] 36)).mono hb.size))
              clear hb
              have HE : Hid (mostOf 1 (nextK valid) (l.take (i + 1)) = n) := by rw [HST.out]; rw [show nextK valid (sq, ⟨K, valid, U, N, FL, US, NM, TX⟩) = 0 from by simp [nextK, k1, k3, k5]]; exact if_neg (by omega)
              go_wp2
              exact ⟨⟨i + 1, by omega, by simp, by rw [HE.out], BJ.out⟩, by first | omega | (simp [intOf]; omega)⟩
      · have BJ := Lib.hid (hb.trans ((belNew wr (.cells #[.int .i64 K, .int .i64 V, .int .i64 U, .int .i64 N, .int .i64 FL, .string US, .string NM, .string TX] 36)).mono hb.size))
        clear hb
        have HE : Hid (mostOf 1 (nextK valid) (l.take (i + 1)) = n) := by rw [HST.out]; rw [show nextK valid (sq, ⟨K, V, U, N, FL, US, NM, TX⟩) = 0 from by simp [nextK, hv]]; exact if_neg (by omega)
        go_wp2
        exact ⟨⟨i + 1, by omega, by simp, by rw [HE.out], BJ.out⟩, by first | omega | (simp [intOf]; omega)⟩
    · have hie : i = l.length := by omega
      subst hie
      go_wp2
      go_ret
      exact ⟨by rw [HB.out]; rfl, hb⟩

end Go.Proofs.Ytmahicpheimnjaa
