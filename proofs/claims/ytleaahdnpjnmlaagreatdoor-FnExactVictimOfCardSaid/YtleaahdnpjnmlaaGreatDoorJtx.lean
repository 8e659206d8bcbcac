/- Texts of our own, joined. -/
import Derived.Test.YtleaahdnpjnmlaaGreatDoorJsx
/- Going up and down in the heap of segments that may be cleaned. -/
namespace Go.Proofs.YtleaahdnpjnmlaaGreatDoor
open Go.RowKit

structure UpI (K : Nat → Prop) (W : World) (p : Nat) (olds : List Vi) (x t : Vi) (bet : Bool) (n : Nat) (a : Option Addr) (cap : Nat) (wr : World) (j : Nat) (l : List Vi) : Prop where
  hp : HpL K W p wr a cap l
  len : l.length = n
  me : l[j]? = some x
  others : ∀ k e, k ≠ j → l[k]? = some e → e ∈ olds
  top : bet = false → j ≠ 0 ∧ l[0]? = some t
theorem UpI.lt {K : Nat → Prop} {W : World} {p : Nat} {olds : List Vi} {x t : Vi} {bet : Bool} {n : Nat} {a : Option Addr} {cap : Nat} {wr : World} {j : Nat} {l : List Vi} (h : UpI K W p olds x t bet n a cap wr j l) : j < n := by
  rw [← h.len]; exact (List.getElem?_eq_some_iff.1 h.me).1

set_option maxRecDepth 100000 in
set_option maxHeartbeats 4000000 in
theorem up_any (K : Nat → Prop) (W w : World) (p : Nat) (a : Option Addr) (cap n j0 : Nat) (olds l0 : List Vi) (x t : Vi) (bet : Bool) (h : UpI K W p olds x t bet n a cap w j0 l0)
    (hb1 : bet = true → ∀ e ∈ olds, viL x e = true) (hb2 : bet = false → viL x t = false) :
    Calls Tryz.prog 45 #[.iface 56 (.pointer (some ⟨p, 0, none⟩)), .int .i64 (j0 : Int)] w fun e w' => e = .returned (.tuple #[]) ∧ ∃ (j : Nat) (l : List Vi), UpI K W p olds x t bet n a cap w' j l ∧ (bet = true → j = 0) := by
  have hn : n ≤ 1048576 := by rw [← h.len]; exact h.hp.len
  have hjn := h.lt
  have HI := Lib.hid h
  have HB1 := Lib.hid hb1
  have HB2 := Lib.hid hb2
  have hnil : ∀ k X, 1 ≤ k → (nilAhead k 56 (.pointer (some ⟨p, 0, none⟩)) "Less").run Tryz.prog X = .ok (some false) X := fun k X hk => nil_vi p k X hk _ (by simp)
  have hnil2 : ∀ k X, 1 ≤ k → (nilAhead k 56 (.pointer (some ⟨p, 0, none⟩)) "Swap").run Tryz.prog X = .ok (some false) X := fun k X hk => nil_vi p k X hk _ (by simp)
  clear h hb1 hb2
  go_enter Tryz.func45, Tryz.ntmps45
  go_wp2
  go_loopw [1] (fun jv wr => ∃ (j : Nat) (l : List Vi), jv = .int .i64 (j : Int) ∧ j < n ∧ Hid (UpI K W p olds x t bet n a cap wr j l)) (fun jv _ => (intOf jv).toNat)
  case atStart => exact ⟨j0, l0, rfl, hjn, HI⟩
  case round =>
    clear HI hjn
    obtain ⟨j, l, rfl, hj, HI⟩ := hrel
    by_cases hj0 : j = 0
    · subst hj0
      have HZ : Hid (∃ (j : Nat) (l : List Vi), UpI K W p olds x t bet n a cap wr j l ∧ (bet = true → j = 0)) := ⟨0, l, HI.out, fun _ => rfl⟩
      clear HI
      have hq : IntKind.i64.wrap ((-1 : Int).tdiv 2) = 0 := by decide
      go_wp2
      go_end0
      exact ⟨rfl, HZ.out⟩
    · obtain ⟨i, hi⟩ : ∃ i, (j - 1) / 2 = i := ⟨_, rfl⟩
      have hij : i < j := by omega
      have hq1 : IntKind.i64.wrap ((j : Int) - 1) = ((j - 1 : Nat) : Int) := (IntWalk.i64_in _ ⟨by omega, by omega⟩).trans (by omega)
      have hq2 : IntKind.i64.wrap (((j - 1 : Nat) : Int).tdiv 2) = (i : Int) := by
        rw [Int.tdiv_eq_ediv_of_nonneg (by omega)]
        exact (IntWalk.i64_in _ ⟨by omega, by omega⟩).trans (by omega)
      have hq3 : wrap64 (((j - 1 : Nat) : Int) / 2) = (i : Int) := (IntWalk.wrap64_in _ ⟨by omega, by omega⟩).trans (by omega)
      have hne : ((i : Int) == (j : Int)) = false := beq_eq_false_iff_ne.2 (by omega)
      have hne2 : (i == j) = false := beq_eq_false_iff_ne.2 (by omega)
      have hne3 : ¬ (i = j) := by omega
      have hne4 : ¬ ((i : Int) = (j : Int)) := by omega
      have hne5 : decide ((i : Int) = (j : Int)) = false := decide_eq_false hne4
      obtain ⟨e, he⟩ : ∃ e, l[i]? = some e := ⟨_, List.getElem?_eq_getElem (by rw [HI.out.len]; omega)⟩
      have HO := Lib.hid (HI.out.others i e (by omega) he)
      have hlen := HI.out.len
      have hml : ∀ k, 1 ≤ k → (method k 56 (.pointer (some ⟨p, 0, none⟩)) "Less").run Tryz.prog wr = .ok (144, .slice a n cap) wr := fun k hk => by
        rw [less_method p k wr hk]
        exact via_load p a n cap wr (by rw [← HI.out.len]; exact HI.out.hp.cell)
      have HLS := Lib.hid (less_any l a n cap j i x e wr (by rw [← HI.out.len]; exact HI.out.hp.row.rows) HI.out.len HI.out.me he)
      obtain ⟨b, hb⟩ : ∃ b, viL x e = b := ⟨_, rfl⟩
      rw [hb] at HLS
      have HB := Lib.hid hb
      have HE := Lib.hid he
      obtain ⟨jm, hjm⟩ : ∃ jm, j - 1 = jm := ⟨_, rfl⟩
      rw [hjm] at hq1 hq2 hq3
      clear hi hb he hlen hjm
      go_wp2_with fail
      clear hml
      refine HLS.out.mono ?_
      rintro e' w2 ⟨rfl, k2⟩
      have h2 := HI.out.hp.later k2
      cases b with
      | false =>
        have HZ : Hid (∃ (j : Nat) (l : List Vi), UpI K W p olds x t bet n a cap w2 j l ∧ (bet = true → j = 0)) := by
          refine ⟨j, l, ⟨h2, HI.out.len, HI.out.me, HI.out.others, HI.out.top⟩, fun c => ?_⟩
          have := HB1.out c e HO.out
          rw [HB.out] at this
          cases this
        clear HI h2 HLS
        go_wp2
        go_end0
        exact ⟨rfl, HZ.out⟩
      | true =>
        have hms : ∀ k, 1 ≤ k → (method k 56 (.pointer (some ⟨p, 0, none⟩)) "Swap").run Tryz.prog w2 = .ok (147, .slice a n cap) w2 := fun k hk => by
          rw [swap_method p k w2 hk]
          exact via_load p a n cap w2 (by rw [← HI.out.len]; exact h2.cell)
        have HSW := Lib.hid (swapVi_any K W w2 p a cap l h2 i j e x HE.out HI.out.me hij)
        rw [HI.out.len] at HSW
        have HZ : Hid (∀ w3, HpL K W p w3 a cap (swV l i j e x) → UpI K W p olds x t bet n a cap w3 i (swV l i j e x)) := fun w3 h3 => by
          have hil : i < l.length := by rw [HI.out.len]; omega
          have hjl : j < l.length := by rw [HI.out.len]; omega
          refine ⟨h3, by rw [swV_len]; exact HI.out.len, swV_lo hil (by omega), fun k u hk hu => ?_, fun c => ?_⟩
          · by_cases c : k = j
            · subst c
              rw [swV_hi hjl] at hu
              cases hu
              exact HO.out
            · rw [swV_other hk c] at hu
              exact HI.out.others k u c hu
          · obtain ⟨_, c2⟩ := HI.out.top c
            by_cases c3 : i = 0
            · subst c3
              have : e = t := Option.some.inj (HE.out.symm.trans c2)
              have h4 := HB2.out c
              rw [← this, HB.out] at h4
              cases h4
            · exact ⟨c3, by rw [swV_other (Ne.symm c3) (by omega)]; exact c2⟩
        clear HI h2 HLS HO HE HB
        go_wp2_with fail
        clear hms
        refine HSW.out.mono ?_
        rintro e' w3 ⟨rfl, h3⟩
        have HZ3 := Lib.hid (HZ.out _ h3)
        clear HSW HZ h3
        go_wp2
        exact ⟨⟨i, swV l i j e x, by first | rfl | simp, by omega, HZ3⟩, by first | omega | (simp [intOf]; omega)⟩

set_option maxRecDepth 100000 in
set_option maxHeartbeats 4000000 in
theorem down_any (K : Nat → Prop) (W w : World) (p : Nat) (a : Option Addr) (cap n : Nat) (l0 : List Vi) (z : Vi) (h : HpL K W p w a cap l0) (hn : l0.length = n + 1) (hz : l0[n]? = some z) :
    Calls Tryz.prog 68 #[.iface 56 (.pointer (some ⟨p, 0, none⟩)), .int .i64 0, .int .i64 (n : Int)] w fun e w' => (∃ b, e = .returned (.bool b)) ∧ ∃ l : List Vi, HpL K W p w' a cap l ∧ l.length = n + 1 ∧ l[n]? = some z := by
  have hnl : n ≤ 1048576 := by have := h.len; omega
  have HI : Hid (HpL K W p w a cap l0 ∧ l0.length = n + 1 ∧ l0[n]? = some z) := ⟨h, hn, hz⟩
  have hnil : ∀ k X, 1 ≤ k → (nilAhead k 56 (.pointer (some ⟨p, 0, none⟩)) "Less").run Tryz.prog X = .ok (some false) X := fun k X hk => nil_vi p k X hk _ (by simp)
  have hnil2 : ∀ k X, 1 ≤ k → (nilAhead k 56 (.pointer (some ⟨p, 0, none⟩)) "Swap").run Tryz.prog X = .ok (some false) X := fun k X hk => nil_vi p k X hk _ (by simp)
  have HLESS : Hid (∀ (l : List Vi) (wr : World), (HpL K W p wr a cap l ∧ l.length = n + 1 ∧ l[n]? = some z) → ∀ (i j : Nat), i ≤ n → j ≤ n → (∃ b, Calls Tryz.prog 144 #[.slice a (n + 1) cap, .int .i64 (i : Int), .int .i64 (j : Int)] wr fun e w' => e = .returned (.bool b) ∧ (HpL K W p w' a cap l ∧ l.length = n + 1 ∧ l[n]? = some z))) := fun l wr hh i j hi hj => by
    obtain ⟨x, hx⟩ : ∃ x, l[i]? = some x := ⟨_, List.getElem?_eq_getElem (by rw [hh.2.1]; omega)⟩
    obtain ⟨y, hy⟩ : ∃ y, l[j]? = some y := ⟨_, List.getElem?_eq_getElem (by rw [hh.2.1]; omega)⟩
    refine ⟨viL x y, (less_any l a (n + 1) cap i j x y wr (by rw [← hh.2.1]; exact hh.1.row.rows) hh.2.1 hx hy).mono ?_⟩
    rintro e w' ⟨rfl, k⟩
    exact ⟨rfl, hh.1.later k, hh.2⟩
  have HSWAP : Hid (∀ (l : List Vi) (wr : World), (HpL K W p wr a cap l ∧ l.length = n + 1 ∧ l[n]? = some z) → ∀ (i j : Nat), i < j → j < n → Calls Tryz.prog 147 #[.slice a (n + 1) cap, .int .i64 (i : Int), .int .i64 (j : Int)] wr fun e w' => e = .returned (.tuple #[]) ∧ ∃ l', (HpL K W p w' a cap l' ∧ l'.length = n + 1 ∧ l'[n]? = some z)) := fun l wr hh i j hij hj => by
    obtain ⟨x, hx⟩ : ∃ x, l[i]? = some x := ⟨_, List.getElem?_eq_getElem (by rw [hh.2.1]; omega)⟩
    obtain ⟨y, hy⟩ : ∃ y, l[j]? = some y := ⟨_, List.getElem?_eq_getElem (by rw [hh.2.1]; omega)⟩
    have := swapVi_any K W wr p a cap l hh.1 i j x y hx hy hij
    rw [hh.2.1] at this
    refine this.mono ?_
    rintro e w' ⟨rfl, k⟩
    exact ⟨rfl, _, k, by rw [swV_len]; exact hh.2.1, by rw [swV_other (by omega) (by omega)]; exact hh.2.2⟩
  have HML : Hid (∀ (l : List Vi) (wr : World), (HpL K W p wr a cap l ∧ l.length = n + 1 ∧ l[n]? = some z) → ∀ k, 1 ≤ k → (method k 56 (.pointer (some ⟨p, 0, none⟩)) "Less").run Tryz.prog wr = .ok (144, .slice a (n + 1) cap) wr) := fun l wr hh k hk => by
    rw [less_method p k wr hk]
    exact via_load p a (n + 1) cap wr (by rw [← hh.2.1]; exact hh.1.cell)
  have HMS : Hid (∀ (l : List Vi) (wr : World), (HpL K W p wr a cap l ∧ l.length = n + 1 ∧ l[n]? = some z) → ∀ k, 1 ≤ k → (method k 56 (.pointer (some ⟨p, 0, none⟩)) "Swap").run Tryz.prog wr = .ok (147, .slice a (n + 1) cap) wr) := fun l wr hh k hk => by
    rw [swap_method p k wr hk]
    exact via_load p a (n + 1) cap wr (by rw [← hh.2.1]; exact hh.1.cell)
  have HR : Hid (∀ (l : List Vi) (wr : World), (HpL K W p wr a cap l ∧ l.length = n + 1 ∧ l[n]? = some z) → ∃ l : List Vi, HpL K W p wr a cap l ∧ l.length = n + 1 ∧ l[n]? = some z) := fun l wr hh => ⟨l, hh⟩
  clear h hn hz
  generalize hG : (fun (wr : World) (l : List Vi) => HpL K W p wr a cap l ∧ l.length = n + 1 ∧ l[n]? = some z) = G
  have HG : ∀ wr l, (HpL K W p wr a cap l ∧ l.length = n + 1 ∧ l[n]? = some z) = G wr l := fun wr l => by rw [← hG]
  simp only [HG] at HI HLESS HSWAP HML HMS HR ⊢
  clear HG hG
  obtain ⟨n1, hn1⟩ : ∃ n1, n + 1 = n1 := ⟨_, rfl⟩
  rw [hn1] at HLESS HSWAP HML HMS
  clear hn1
  go_enter Tryz.func68, Tryz.ntmps68
  go_wp2
  go_loopw [7] (fun jv wr => ∃ (j : Nat) (l : List Vi), jv = .int .i64 (j : Int) ∧ j ≤ n ∧ Hid (G wr l)) (fun jv _ => n - (intOf jv).toNat)
  case atStart => exact ⟨0, l0, rfl, by omega, HI⟩
  case round =>
    clear HI
    obtain ⟨i, l, rfl, hi, HI⟩ := hrel
    obtain ⟨i2, hi2⟩ : ∃ i2, 2 * i = i2 := ⟨_, rfl⟩
    obtain ⟨c1, hc1⟩ : ∃ c1, 2 * i + 1 = c1 := ⟨_, rfl⟩
    obtain ⟨c2, hc2⟩ : ∃ c2, 2 * i + 2 = c2 := ⟨_, rfl⟩
    have hm : IntKind.i64.wrap (2 * (i : Int)) = (i2 : Int) := (IntWalk.i64_in _ ⟨by omega, by omega⟩).trans (by omega)
    have hm1 : IntKind.i64.wrap ((i2 : Int) + 1) = (c1 : Int) := (IntWalk.i64_in _ ⟨by omega, by omega⟩).trans (by omega)
    have hm2 : IntKind.i64.wrap ((c1 : Int) + 1) = (c2 : Int) := (IntWalk.i64_in _ ⟨by omega, by omega⟩).trans (by omega)
    have hic : i < c1 ∧ c1 < c2 := by omega
    have HC12 : Hid (c2 = c1 + 1) := by show _ = _; omega
    clear hi2 hc1 hc2
    by_cases h1 : (n : Int) ≤ (c1 : Int)
    · have HZ := Lib.hid (HR.out l wr HI.out)
      clear HI
      go_wp2
      go_ret
      exact ⟨⟨_, rfl⟩, HZ.out⟩
    · have h10 : ¬ ((c1 : Int) < 0) := by omega
      have hlast : ∀ (c : Nat) (l2 : List Vi) (w2 : World), Hid (G w2 l2) → i < c → c < n → True := fun _ _ _ _ _ _ => trivial
      clear hlast
      by_cases h2 : (c2 : Int) < (n : Int)
      · have hml := HML.out l wr HI.out
        obtain ⟨b, hb⟩ := HLESS.out l wr HI.out c2 c1 (by omega) (by omega)
        have HLS := Lib.hid hb
        clear hb HI
        go_wp2_with fail
        clear hml
        refine HLS.out.mono ?_
        rintro e w2 ⟨rfl, g2⟩
        have HI2 := Lib.hid g2
        clear HLS g2
        cases b with
        | true =>
          have hml := HML.out l w2 HI2.out
          obtain ⟨b, hb⟩ := HLESS.out l w2 HI2.out c2 i (by omega) (by omega)
          have HLS := Lib.hid hb
          clear hb HI2
          go_wp2_with fail
          clear hml
          refine HLS.out.mono ?_
          rintro e w3 ⟨rfl, g3⟩
          cases b with
          | false =>
            have HZ := Lib.hid (HR.out l w3 g3)
            clear HLS g3
            go_wp2
            go_ret
            exact ⟨⟨_, rfl⟩, HZ.out⟩
          | true =>
            have hms := HMS.out l w3 g3
            have HSW := Lib.hid (HSWAP.out l w3 g3 i c2 (by omega) (by omega))
            clear HLS g3
            go_wp2_with fail
            clear hms
            refine HSW.out.mono ?_
            rintro e w4 ⟨rfl, l4, g4⟩
            have HI4 := Lib.hid g4
            clear HSW g4
            go_wp2
            exact ⟨⟨c2, l4, by first | rfl | simp, by omega, HI4⟩, by first | omega | (simp [intOf]; omega)⟩
        | false =>
          have hml := HML.out l w2 HI2.out
          obtain ⟨b, hb⟩ := HLESS.out l w2 HI2.out c1 i (by omega) (by omega)
          have HLS := Lib.hid hb
          clear hb HI2
          go_wp2_with fail
          clear hml
          refine HLS.out.mono ?_
          rintro e w3 ⟨rfl, g3⟩
          cases b with
          | false =>
            have HZ := Lib.hid (HR.out l w3 g3)
            clear HLS g3
            go_wp2
            go_ret
            exact ⟨⟨_, rfl⟩, HZ.out⟩
          | true =>
            have hms := HMS.out l w3 g3
            have HSW := Lib.hid (HSWAP.out l w3 g3 i c1 (by omega) (by omega))
            clear HLS g3
            go_wp2_with fail
            clear hms
            refine HSW.out.mono ?_
            rintro e w4 ⟨rfl, l4, g4⟩
            have HI4 := Lib.hid g4
            clear HSW g4
            go_wp2
            exact ⟨⟨c1, l4, by first | rfl | simp, by omega, HI4⟩, by first | omega | (simp [intOf]; omega)⟩
      · have hml := HML.out l wr HI.out
        obtain ⟨b, hb⟩ := HLESS.out l wr HI.out c1 i (by omega) (by omega)
        have HLS := Lib.hid hb
        clear hb HI
        go_wp2_with fail
        clear hml
        refine HLS.out.mono ?_
        rintro e w3 ⟨rfl, g3⟩
        cases b with
        | false =>
          have HZ := Lib.hid (HR.out l w3 g3)
          clear HLS g3
          go_wp2
          go_ret
          exact ⟨⟨_, rfl⟩, HZ.out⟩
        | true =>
          have hms := HMS.out l w3 g3
          have HSW := Lib.hid (HSWAP.out l w3 g3 i c1 (by omega) (by omega))
          clear HLS g3
          go_wp2_with fail
          clear hms
          refine HSW.out.mono ?_
          rintro e w4 ⟨rfl, l4, g4⟩
          have HI4 := Lib.hid g4
          clear HSW g4
          go_wp2
          exact ⟨⟨c1, l4, by first | rfl | simp, by omega, HI4⟩, by first | omega | (simp [intOf]; omega)⟩

end Go.Proofs.YtleaahdnpjnmlaaGreatDoor
