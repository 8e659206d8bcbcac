/- Texts of our own, joined. -/
import Derived.Test.YtmahicpheimnjaaJq
import Derived.Test.YtmahicpheimnjaaJb
import Derived.Test.YtmahicpheimnjaaJj
import Derived.Test.YtmahicpheimnjaaJg
import Derived.Test.YtmahicpheimnjaaJn
import Derived.Deep.RegionHeld3
import Derived.Test.YtmahicpheimnjaaJe
import Derived.Lib.Hide
/- copyBox: a copy of a box, in memory of its own. -/
namespace Go.Proofs.Ytmahicpheimnjaa
open Go.RowKit

theorem setCell_self {w : World} {g i : Nat} {v : Value} (h : w.cell? ⟨g, i, none⟩ = some v) : w.setCell ⟨g, i, none⟩ v = w := by
  have : w.heap.modify g (fun
      | .cells c elem frozen => .cells (if (none : Option Nat).isSome then c else c.setIfInBounds i v) elem frozen
      | o => o) = w.heap := by
    apply Array.ext_getElem?
    intro k
    rw [Array.getElem?_modify]
    by_cases hk : g = k
    · subst hk
      rw [if_pos rfl]
      unfold World.cell? at h
      cases ho : w.heap[g]? with
      | none => rfl
      | some o =>
        rw [ho] at h
        cases o <;> simp_all
        rename_i c _ _
        apply Array.ext_getElem?
        intro j
        rw [Array.getElem?_setIfInBounds]
        by_cases hj : i = j
        · subst hj; simp_all; exact (Array.getElem?_eq_some_iff.1 h).1
        · simp [hj]
    · rw [if_neg hk]
  show { w with heap := _ } = w
  exact congrArg (fun hp => { w with heap := hp }) this

theorem Box.set5' {w : World} {b : Nat} {u0 u1 u2 u3 u4 : Value} {t : TypeId} (h : Box w b #[u0, u1, u2, u3, u4] t) (v0 v1 v2 v3 v4 : Value) : Box (((((w.setCell ⟨b, 0, none⟩ v0).setCell ⟨b, 1, none⟩ v1).setCell ⟨b, 2, none⟩ v2).setCell ⟨b, 3, none⟩ v3).setCell ⟨b, 4, none⟩ v4) b #[v0, v1, v2, v3, v4] t := ((((h.set 0 v0).set 1 v1).set 2 v2).set 3 v3).set 4 v4
theorem RBuf.aside2 {α : Type} {E : Enc α} {B : Nat} {w : World} {v : Value} {l : List α} {g : Nat} (h : RBuf E B w w v l) (hne : v.ownBlock ≠ some g) (i : Nat) (u : Value) : RBuf E B (w.setCell ⟨g, i, none⟩ u) (w.setCell ⟨g, i, none⟩ u) v l := h.shift (stored_grown w g i u) (.inr hne)
theorem RBuf.under {α : Type} {E1 : Enc α} {B g : Nat} {w0 x : World} {v : Value} {l : List α} (h : RBuf E1 B w0 x v l) (hg : g < B) : v.ownBlock ≠ some g := fun e => by have := (h.own.lt g e).1; omega
theorem RBuf.above {α : Type} {E1 : Enc α} {B g : Nat} {w0 x : World} {v : Value} {l : List α} (h : RBuf E1 B w0 x v l) (hg : x.heap.size ≤ g) : v.ownBlock ≠ some g := fun e => by have := (h.own.lt g e).2; omega
theorem RBuf.at0 {α : Type} {E1 : Enc α} {B B0 : Nat} {w0 x : World} {v : Value} {l : List α} (h : RBuf E1 B w0 x v l) (hB : B0 ≤ B) : RBuf E1 B0 x x v l := h.here.lower hB

set_option maxRecDepth 100000 in
set_option maxHeartbeats 8000000 in
theorem copyBox_any (b : Bx) (a1 : Option Addr) (c1 : Nat) (w : World) (h : Rows' mlE w (.slice a1 b.mails.length c1) b.mails) (hl : b.mails.length ≤ 1048576) (hu : b.user.size ≤ 1099511627776) (hn : b.name.size ≤ 1099511627776) (ht : ∀ m ∈ b.mails, m.text.size ≤ 1099511627776) :
    Calls Try.prog 35 #[.agg #[.int .i64 b.valid, .string b.user, .string b.name, .int .i64 b.next, .slice a1 b.mails.length c1]] w fun e w' => ∃ v, e = .returned (.agg #[.int .i64 b.valid, .string b.user, .string b.name, .int .i64 b.next, v]) ∧ RBuf mlE w.heap.size w' w' v b.mails ∧ Below w.heap.size w w' := by
  have b1 : Below w.heap.size w ((w.alloc (.cells #[.int .i64 b.valid, .string b.user, .string b.name, .int .i64 b.next, .slice a1 b.mails.length c1] 32)).alloc (.cells #[.int .i64 0, .string ⟨#[]⟩, .string ⟨#[]⟩, .int .i64 0, .slice none 0 0] 32)) := ((Below.refl _ _).alloc (Nat.le_refl _) _).alloc (by simp) _
  have X1 := (Box.new w #[.int .i64 b.valid, .string b.user, .string b.name, .int .i64 b.next, .slice a1 b.mails.length c1] 32).later (belNew _ (.cells #[.int .i64 0, .string ⟨#[]⟩, .string ⟨#[]⟩, .int .i64 0, .slice none 0 0] 32))
  have X2 : Box ((w.alloc (.cells #[.int .i64 b.valid, .string b.user, .string b.name, .int .i64 b.next, .slice a1 b.mails.length c1] 32)).alloc (.cells #[.int .i64 0, .string ⟨#[]⟩, .string ⟨#[]⟩, .int .i64 0, .slice none 0 0] 32)) (w.heap.size + 1) #[.int .i64 0, .string ⟨#[]⟩, .string ⟨#[]⟩, .int .i64 0, .slice none 0 0] 32 := by
    have := Box.new (w.alloc (.cells #[.int .i64 b.valid, .string b.user, .string b.name, .int .i64 b.next, .slice a1 b.mails.length c1] 32)) #[.int .i64 0, .string ⟨#[]⟩, .string ⟨#[]⟩, .int .i64 0, .slice none 0 0] 32
    rwa [show (w.alloc (.cells #[.int .i64 b.valid, .string b.user, .string b.name, .int .i64 b.next, .slice a1 b.mails.length c1] 32)).heap.size = w.heap.size + 1 from by simp] at this
  have R1 := h.later b1
  go_enter Try.func35, Try.ntmps35
  go_upto_region 1 with fail
  generalize (w.alloc (.cells #[.int .i64 b.valid, .string b.user, .string b.name, .int .i64 b.next, .slice a1 b.mails.length c1] 32)).alloc (.cells #[.int .i64 0, .string ⟨#[]⟩, .string ⟨#[]⟩, .int .i64 0, .slice none 0 0] 32) = w1 at b1 X1 X2 R1 ⊢
  have HR : Hid (∀ x, Below w1.heap.size w1 x → Rows' mlE x (.slice a1 b.mails.length c1) b.mails) := fun x hx => R1.later hx
  have HC : Hid (∀ x, Below w1.heap.size w1 x → x.cell? ⟨w.heap.size, 0, none⟩ = some (.int .i64 b.valid) ∧ x.cell? ⟨w.heap.size, 1, none⟩ = some (.string b.user) ∧ x.cell? ⟨w.heap.size, 2, none⟩ = some (.string b.name) ∧ x.cell? ⟨w.heap.size, 3, none⟩ = some (.int .i64 b.next) ∧ x.cell? ⟨w.heap.size, 4, none⟩ = some (.slice a1 b.mails.length c1)) := fun x hx => (X1.later hx).five
  have H2 : Hid (∀ x, Below w1.heap.size w1 x → Box x (w.heap.size + 1) #[.int .i64 0, .string ⟨#[]⟩, .string ⟨#[]⟩, .int .i64 0, .slice none 0 0] 32) := fun x hx => X2.later hx
  have HB1 := Lib.hid b1
  clear X1 X2 R1 h b1
  go_cut [3] (fun p wx => ∃ (g : Nat) (pR : Option Addr) (qR : Nat), p = .pointer (some ⟨g, 0, none⟩) ∧ Box wx g #[.int .i64 b.valid, .string b.user, .string b.name, .int .i64 b.next, .slice pR b.mails.length qR] 32 ∧ RBuf mlE w1.heap.size wx wx (.slice pR b.mails.length qR) b.mails ∧ (Value.slice pR b.mails.length qR).ownBlock ≠ some g ∧ w1.heap.size ≤ g ∧ Below w1.heap.size w1 wx)
  case first =>
    refine wp_region_held_drew (S := fun x => Below w1.heap.size w1 x) (by kernel_rfl) ((Below.refl _ _).drew) (fun hHeld => ?_)
    refine takeL (i := 0) (v := .pointer (some ⟨w.heap.size, 0, none⟩)) rfl (by kernel_rfl) (by kernel_rfl) (by kernel_rfl) (fun _ _ _ h => h) (Or.inl ⟨by rfl, ?_⟩) (by assumption) ?_
    · intro x hSx; go_simp
    try simp only [Act.put, List.setIfInBounds_toArray, List.set_cons_zero, List.set_cons_succ]
    refine takeL (i := 1) (v := .int .i64 b.valid) rfl (by kernel_rfl) (by kernel_rfl) (by kernel_rfl) (fun _ _ _ h => h) (Or.inl ⟨by rfl, ?_⟩) (by assumption) ?_
    · intro x hSx; obtain ⟨d0, d1, d2, d3, d4⟩ := HC.out x hSx; go_simp
    try simp only [Act.put, List.setIfInBounds_toArray, List.set_cons_zero, List.set_cons_succ]
    refine takeL (i := 2) (v := .pointer (some ⟨w.heap.size, 1, none⟩)) rfl (by kernel_rfl) (by kernel_rfl) (by kernel_rfl) (fun _ _ _ h => h) (Or.inl ⟨by rfl, ?_⟩) (by assumption) ?_
    · intro x hSx; go_simp
    try simp only [Act.put, List.setIfInBounds_toArray, List.set_cons_zero, List.set_cons_succ]
    refine takeL (i := 3) (v := .string b.user) rfl (by kernel_rfl) (by kernel_rfl) (by kernel_rfl) (fun _ _ _ h => h) (Or.inl ⟨by rfl, ?_⟩) (by assumption) ?_
    · intro x hSx; obtain ⟨d0, d1, d2, d3, d4⟩ := HC.out x hSx; go_simp
    try simp only [Act.put, List.setIfInBounds_toArray, List.set_cons_zero, List.set_cons_succ]
    refine takeL (i := 5) (v := .pointer (some ⟨w.heap.size, 2, none⟩)) rfl (by kernel_rfl) (by kernel_rfl) (by kernel_rfl) (fun _ _ _ h => h) (Or.inl ⟨by rfl, ?_⟩) (by assumption) ?_
    · intro x hSx; go_simp
    try simp only [Act.put, List.setIfInBounds_toArray, List.set_cons_zero, List.set_cons_succ]
    refine takeL (i := 6) (v := .string b.name) rfl (by kernel_rfl) (by kernel_rfl) (by kernel_rfl) (fun _ _ _ h => h) (Or.inl ⟨by rfl, ?_⟩) (by assumption) ?_
    · intro x hSx; obtain ⟨d0, d1, d2, d3, d4⟩ := HC.out x hSx; go_simp
    try simp only [Act.put, List.setIfInBounds_toArray, List.set_cons_zero, List.set_cons_succ]
    refine takeL (i := 8) (v := .pointer (some ⟨w.heap.size, 3, none⟩)) rfl (by kernel_rfl) (by kernel_rfl) (by kernel_rfl) (fun _ _ _ h => h) (Or.inl ⟨by rfl, ?_⟩) (by assumption) ?_
    · intro x hSx; go_simp
    try simp only [Act.put, List.setIfInBounds_toArray, List.set_cons_zero, List.set_cons_succ]
    refine takeL (i := 9) (v := .int .i64 b.next) rfl (by kernel_rfl) (by kernel_rfl) (by kernel_rfl) (fun _ _ _ h => h) (Or.inl ⟨by rfl, ?_⟩) (by assumption) ?_
    · intro x hSx; obtain ⟨d0, d1, d2, d3, d4⟩ := HC.out x hSx; go_simp
    try simp only [Act.put, List.setIfInBounds_toArray, List.set_cons_zero, List.set_cons_succ]
    refine takeL (i := 10) (v := .pointer (some ⟨w.heap.size, 4, none⟩)) rfl (by kernel_rfl) (by kernel_rfl) (by kernel_rfl) (fun _ _ _ h => h) (Or.inl ⟨by rfl, ?_⟩) (by assumption) ?_
    · intro x hSx; go_simp
    try simp only [Act.put, List.setIfInBounds_toArray, List.set_cons_zero, List.set_cons_succ]
    refine takeL (i := 11) (v := .slice a1 b.mails.length c1) rfl (by kernel_rfl) (by kernel_rfl) (by kernel_rfl) (fun _ _ _ h => h) (Or.inl ⟨by rfl, ?_⟩) (by assumption) ?_
    · intro x hSx; obtain ⟨d0, d1, d2, d3, d4⟩ := HC.out x hSx; go_simp
    try simp only [Act.put, List.setIfInBounds_toArray, List.set_cons_zero, List.set_cons_succ]
    generalize w1.drew = X0 at hHeld ⊢
    refine wpAnyH_ready (rs := [4, 14]) (by kernel_rfl) (by simp) ?_
    refine readyTwo rfl rfl (fun K' hK => ?_) (fun K' hK => ?_)
    · skip
      go_simp
      refine (clone_any _ _ (by omega)).mono ?_
      rintro e w4 ⟨rfl, kw4⟩
      go_wp2_with fail
      refine hK.out _ _ (hHeld.trans (kw4.mono hHeld.size)) (fun hS2 => ?_)
      clear hK K' hHeld
      have hHeld := hS2
      clear hS2
      try simp only [Act.put, List.setIfInBounds_toArray, List.set_cons_zero, List.set_cons_succ]
      clear kw4
      refine wpAnyH_ready (rs := [7, 14]) (by kernel_rfl) (by simp) ?_
      refine readyTwo rfl rfl (fun K' hK => ?_) (fun K' hK => ?_)
      · skip
        go_simp
        refine (clone_any _ _ (by omega)).mono ?_
        rintro e w7 ⟨rfl, kw7⟩
        go_wp2_with fail
        refine hK.out _ _ (hHeld.trans (kw7.mono hHeld.size)) (fun hS2 => ?_)
        clear hK K' hHeld
        have hHeld := hS2
        clear hS2
        try simp only [Act.put, List.setIfInBounds_toArray, List.set_cons_zero, List.set_cons_succ]
        clear kw7
        refine wpAnyH_ready (rs := [12, 14]) (by kernel_rfl) (by simp) ?_
        refine readyTwo rfl rfl (fun K' hK => ?_) (fun K' hK => ?_)
        · skip
          go_simp
          refine (cloneM_any b.mails _ _ (HR.out _ hHeld) (by omega)).mono ?_
          rintro e wR ⟨vR, rfl, R⟩
          have kR := R.bel
          obtain ⟨pR, qR, rfl⟩ := R.form
          go_wp2_with fail
          have hzR := Lib.hid hHeld.size
          refine hK.out _ _ (hHeld.trans (kR.mono hHeld.size)) (fun hS2 => ?_)
          clear hK K' hHeld
          have hHeld := hS2
          clear hS2
          try simp only [Act.put, List.setIfInBounds_toArray, List.set_cons_zero, List.set_cons_succ]
          replace R := R.at0 hzR.out
          clear kR hzR
          refine takeL (i := 13) (v := .agg #[.int .i64 b.valid, .string b.user, .string b.name, .int .i64 b.next, .slice pR b.mails.length qR]) rfl (by kernel_rfl) (by kernel_rfl) (by kernel_rfl) (fun _ _ _ h => h) (Or.inl ⟨by rfl, ?_⟩) (by assumption) ?_
          · intro x hSx; go_simp
          try simp only [Act.put, List.setIfInBounds_toArray, List.set_cons_zero, List.set_cons_succ]
          refine wpAnyH_ready (rs := [14]) (by kernel_rfl) (by simp) ?_
          refine readyOne rfl (fun K' hK => ?_)
          go_simp
          have hne := R.above (Nat.le_refl wR.heap.size)
          have hgA := Lib.hid hHeld.size
          refine hK.out _ _ (hHeld.trans ((belNew wR (.cells #[.int .i64 0, .string ⟨#[]⟩, .string ⟨#[]⟩, .int .i64 0, .slice none 0 0] 32)).mono hHeld.size)) (fun hS2 => ?_)
          clear hK K' hHeld
          have hHeld := hS2
          clear hS2
          try simp only [Act.put, List.setIfInBounds_toArray, List.set_cons_zero, List.set_cons_succ]
          have B := Box.new wR #[.int .i64 0, .string ⟨#[]⟩, .string ⟨#[]⟩, .int .i64 0, .slice none 0 0] 32
          replace R := (R.later (belNew wR (.cells #[.int .i64 0, .string ⟨#[]⟩, .string ⟨#[]⟩, .int .i64 0, .slice none 0 0] 32))).here
          generalize wR.alloc (.cells #[.int .i64 0, .string ⟨#[]⟩, .string ⟨#[]⟩, .int .i64 0, .slice none 0 0] 32) = XA at hHeld B R ⊢
          generalize wR.heap.size = gA at B hgA hne ⊢
          refine wpAnyH_ready (rs := [15]) (by kernel_rfl) (by simp) ?_
          refine readyOne rfl (fun K' hK => ?_)
          obtain ⟨z0, z1, z2, z3, z4⟩ := B.five
          have f0 := B.loose 0
          have f1 := B.loose 1
          have f2 := B.loose 2
          have f3 := B.loose 3
          have f4 := B.loose 4
          go_simp
          clear z0 z1 z2 z3 z4 f0 f1 f2 f3 f4
          have FB := B.set5' (.int .i64 b.valid) (.string b.user) (.string b.name) (.int .i64 b.next) (.slice pR b.mails.length qR)
          have FR := (((((R.aside2 hne 0 (.int .i64 b.valid)).aside2 hne 1 (.string b.user)).aside2 hne 2 (.string b.name)).aside2 hne 3 (.int .i64 b.next)).aside2 hne 4 (.slice pR b.mails.length qR))
          refine hK.out _ _ ((((((hHeld.setCell (p := ⟨gA, 0, none⟩) hgA.out (.int .i64 b.valid)).setCell (p := ⟨gA, 1, none⟩) hgA.out (.string b.user)).setCell (p := ⟨gA, 2, none⟩) hgA.out (.string b.name)).setCell (p := ⟨gA, 3, none⟩) hgA.out (.int .i64 b.next)).setCell (p := ⟨gA, 4, none⟩) hgA.out (.slice pR b.mails.length qR))) (fun hS2 => ?_)
          clear hK K' hHeld
          have hHeld := hS2
          clear hS2
          try simp only [Act.put, List.setIfInBounds_toArray, List.set_cons_zero, List.set_cons_succ]
          refine wpAnyH_done (by kernel_rfl) ?_ _
          go_wp2_with fail
          go_meet
          exact ⟨gA, pR, qR, rfl, FB, FR, hne, hgA.out, hHeld⟩
        · skip
          go_simp
          have hgA := Lib.hid hHeld.size
          refine hK.out _ _ (hHeld.trans ((belNew w7 (.cells #[.int .i64 0, .string ⟨#[]⟩, .string ⟨#[]⟩, .int .i64 0, .slice none 0 0] 32)).mono hHeld.size)) (fun hS2 => ?_)
          clear hK K' hHeld
          have hHeld := hS2
          clear hS2
          try simp only [Act.put, List.setIfInBounds_toArray, List.set_cons_zero, List.set_cons_succ]
          have B := Box.new w7 #[.int .i64 0, .string ⟨#[]⟩, .string ⟨#[]⟩, .int .i64 0, .slice none 0 0] 32
          generalize w7.alloc (.cells #[.int .i64 0, .string ⟨#[]⟩, .string ⟨#[]⟩, .int .i64 0, .slice none 0 0] 32) = XA at hHeld B ⊢
          generalize w7.heap.size = gA at B hgA ⊢
          refine wpAnyH_ready (rs := [12]) (by kernel_rfl) (by simp) ?_
          refine readyOne rfl (fun K' hK => ?_)
          go_simp
          refine (cloneM_any b.mails _ _ (HR.out _ hHeld) (by omega)).mono ?_
          rintro e wR ⟨vR, rfl, R⟩
          have kR := R.bel
          obtain ⟨pR, qR, rfl⟩ := R.form
          go_wp2_with fail
          have hne := R.under B.lt
          have hzR := Lib.hid hHeld.size
          refine hK.out _ _ (hHeld.trans (kR.mono hHeld.size)) (fun hS2 => ?_)
          clear hK K' hHeld
          have hHeld := hS2
          clear hS2
          try simp only [Act.put, List.setIfInBounds_toArray, List.set_cons_zero, List.set_cons_succ]
          replace B := B.later kR
          replace R := R.at0 hzR.out
          clear kR hzR
          refine takeL (i := 13) (v := .agg #[.int .i64 b.valid, .string b.user, .string b.name, .int .i64 b.next, .slice pR b.mails.length qR]) rfl (by kernel_rfl) (by kernel_rfl) (by kernel_rfl) (fun _ _ _ h => h) (Or.inl ⟨by rfl, ?_⟩) (by assumption) ?_
          · intro x hSx; go_simp
          try simp only [Act.put, List.setIfInBounds_toArray, List.set_cons_zero, List.set_cons_succ]
          refine wpAnyH_ready (rs := [15]) (by kernel_rfl) (by simp) ?_
          refine readyOne rfl (fun K' hK => ?_)
          obtain ⟨z0, z1, z2, z3, z4⟩ := B.five
          have f0 := B.loose 0
          have f1 := B.loose 1
          have f2 := B.loose 2
          have f3 := B.loose 3
          have f4 := B.loose 4
          go_simp
          clear z0 z1 z2 z3 z4 f0 f1 f2 f3 f4
          have FB := B.set5' (.int .i64 b.valid) (.string b.user) (.string b.name) (.int .i64 b.next) (.slice pR b.mails.length qR)
          have FR := (((((R.aside2 hne 0 (.int .i64 b.valid)).aside2 hne 1 (.string b.user)).aside2 hne 2 (.string b.name)).aside2 hne 3 (.int .i64 b.next)).aside2 hne 4 (.slice pR b.mails.length qR))
          refine hK.out _ _ ((((((hHeld.setCell (p := ⟨gA, 0, none⟩) hgA.out (.int .i64 b.valid)).setCell (p := ⟨gA, 1, none⟩) hgA.out (.string b.user)).setCell (p := ⟨gA, 2, none⟩) hgA.out (.string b.name)).setCell (p := ⟨gA, 3, none⟩) hgA.out (.int .i64 b.next)).setCell (p := ⟨gA, 4, none⟩) hgA.out (.slice pR b.mails.length qR))) (fun hS2 => ?_)
          clear hK K' hHeld
          have hHeld := hS2
          clear hS2
          try simp only [Act.put, List.setIfInBounds_toArray, List.set_cons_zero, List.set_cons_succ]
          refine wpAnyH_done (by kernel_rfl) ?_ _
          go_wp2_with fail
          go_meet
          exact ⟨gA, pR, qR, rfl, FB, FR, hne, hgA.out, hHeld⟩
      · skip
        go_simp
        have hgA := Lib.hid hHeld.size
        refine hK.out _ _ (hHeld.trans ((belNew w4 (.cells #[.int .i64 0, .string ⟨#[]⟩, .string ⟨#[]⟩, .int .i64 0, .slice none 0 0] 32)).mono hHeld.size)) (fun hS2 => ?_)
        clear hK K' hHeld
        have hHeld := hS2
        clear hS2
        try simp only [Act.put, List.setIfInBounds_toArray, List.set_cons_zero, List.set_cons_succ]
        have B := Box.new w4 #[.int .i64 0, .string ⟨#[]⟩, .string ⟨#[]⟩, .int .i64 0, .slice none 0 0] 32
        generalize w4.alloc (.cells #[.int .i64 0, .string ⟨#[]⟩, .string ⟨#[]⟩, .int .i64 0, .slice none 0 0] 32) = XA at hHeld B ⊢
        generalize w4.heap.size = gA at B hgA ⊢
        refine wpAnyH_ready (rs := [7]) (by kernel_rfl) (by simp) ?_
        refine readyOne rfl (fun K' hK => ?_)
        go_simp
        refine (clone_any _ _ (by omega)).mono ?_
        rintro e w7 ⟨rfl, kw7⟩
        go_wp2_with fail
        refine hK.out _ _ (hHeld.trans (kw7.mono hHeld.size)) (fun hS2 => ?_)
        clear hK K' hHeld
        have hHeld := hS2
        clear hS2
        try simp only [Act.put, List.setIfInBounds_toArray, List.set_cons_zero, List.set_cons_succ]
        replace B := B.later kw7
        clear kw7
        refine wpAnyH_ready (rs := [12]) (by kernel_rfl) (by simp) ?_
        refine readyOne rfl (fun K' hK => ?_)
        go_simp
        refine (cloneM_any b.mails _ _ (HR.out _ hHeld) (by omega)).mono ?_
        rintro e wR ⟨vR, rfl, R⟩
        have kR := R.bel
        obtain ⟨pR, qR, rfl⟩ := R.form
        go_wp2_with fail
        have hne := R.under B.lt
        have hzR := Lib.hid hHeld.size
        refine hK.out _ _ (hHeld.trans (kR.mono hHeld.size)) (fun hS2 => ?_)
        clear hK K' hHeld
        have hHeld := hS2
        clear hS2
        try simp only [Act.put, List.setIfInBounds_toArray, List.set_cons_zero, List.set_cons_succ]
        replace B := B.later kR
        replace R := R.at0 hzR.out
        clear kR hzR
        refine takeL (i := 13) (v := .agg #[.int .i64 b.valid, .string b.user, .string b.name, .int .i64 b.next, .slice pR b.mails.length qR]) rfl (by kernel_rfl) (by kernel_rfl) (by kernel_rfl) (fun _ _ _ h => h) (Or.inl ⟨by rfl, ?_⟩) (by assumption) ?_
        · intro x hSx; go_simp
        try simp only [Act.put, List.setIfInBounds_toArray, List.set_cons_zero, List.set_cons_succ]
        refine wpAnyH_ready (rs := [15]) (by kernel_rfl) (by simp) ?_
        refine readyOne rfl (fun K' hK => ?_)
        obtain ⟨z0, z1, z2, z3, z4⟩ := B.five
        have f0 := B.loose 0
        have f1 := B.loose 1
        have f2 := B.loose 2
        have f3 := B.loose 3
        have f4 := B.loose 4
        go_simp
        clear z0 z1 z2 z3 z4 f0 f1 f2 f3 f4
        have FB := B.set5' (.int .i64 b.valid) (.string b.user) (.string b.name) (.int .i64 b.next) (.slice pR b.mails.length qR)
        have FR := (((((R.aside2 hne 0 (.int .i64 b.valid)).aside2 hne 1 (.string b.user)).aside2 hne 2 (.string b.name)).aside2 hne 3 (.int .i64 b.next)).aside2 hne 4 (.slice pR b.mails.length qR))
        refine hK.out _ _ ((((((hHeld.setCell (p := ⟨gA, 0, none⟩) hgA.out (.int .i64 b.valid)).setCell (p := ⟨gA, 1, none⟩) hgA.out (.string b.user)).setCell (p := ⟨gA, 2, none⟩) hgA.out (.string b.name)).setCell (p := ⟨gA, 3, none⟩) hgA.out (.int .i64 b.next)).setCell (p := ⟨gA, 4, none⟩) hgA.out (.slice pR b.mails.length qR))) (fun hS2 => ?_)
        clear hK K' hHeld
        have hHeld := hS2
        clear hS2
        try simp only [Act.put, List.setIfInBounds_toArray, List.set_cons_zero, List.set_cons_succ]
        refine wpAnyH_done (by kernel_rfl) ?_ _
        go_wp2_with fail
        go_meet
        exact ⟨gA, pR, qR, rfl, FB, FR, hne, hgA.out, hHeld⟩
    · skip
      go_simp
      have hgA := Lib.hid hHeld.size
      refine hK.out _ _ (hHeld.trans ((belNew X0 (.cells #[.int .i64 0, .string ⟨#[]⟩, .string ⟨#[]⟩, .int .i64 0, .slice none 0 0] 32)).mono hHeld.size)) (fun hS2 => ?_)
      clear hK K' hHeld
      have hHeld := hS2
      clear hS2
      try simp only [Act.put, List.setIfInBounds_toArray, List.set_cons_zero, List.set_cons_succ]
      have B := Box.new X0 #[.int .i64 0, .string ⟨#[]⟩, .string ⟨#[]⟩, .int .i64 0, .slice none 0 0] 32
      generalize X0.alloc (.cells #[.int .i64 0, .string ⟨#[]⟩, .string ⟨#[]⟩, .int .i64 0, .slice none 0 0] 32) = XA at hHeld B ⊢
      generalize X0.heap.size = gA at B hgA ⊢
      refine wpAnyH_ready (rs := [4]) (by kernel_rfl) (by simp) ?_
      refine readyOne rfl (fun K' hK => ?_)
      go_simp
      refine (clone_any _ _ (by omega)).mono ?_
      rintro e w4 ⟨rfl, kw4⟩
      go_wp2_with fail
      refine hK.out _ _ (hHeld.trans (kw4.mono hHeld.size)) (fun hS2 => ?_)
      clear hK K' hHeld
      have hHeld := hS2
      clear hS2
      try simp only [Act.put, List.setIfInBounds_toArray, List.set_cons_zero, List.set_cons_succ]
      replace B := B.later kw4
      clear kw4
      refine wpAnyH_ready (rs := [7]) (by kernel_rfl) (by simp) ?_
      refine readyOne rfl (fun K' hK => ?_)
      go_simp
      refine (clone_any _ _ (by omega)).mono ?_
      rintro e w7 ⟨rfl, kw7⟩
      go_wp2_with fail
      refine hK.out _ _ (hHeld.trans (kw7.mono hHeld.size)) (fun hS2 => ?_)
      clear hK K' hHeld
      have hHeld := hS2
      clear hS2
      try simp only [Act.put, List.setIfInBounds_toArray, List.set_cons_zero, List.set_cons_succ]
      replace B := B.later kw7
      clear kw7
      refine wpAnyH_ready (rs := [12]) (by kernel_rfl) (by simp) ?_
      refine readyOne rfl (fun K' hK => ?_)
      go_simp
      refine (cloneM_any b.mails _ _ (HR.out _ hHeld) (by omega)).mono ?_
      rintro e wR ⟨vR, rfl, R⟩
      have kR := R.bel
      obtain ⟨pR, qR, rfl⟩ := R.form
      go_wp2_with fail
      have hne := R.under B.lt
      have hzR := Lib.hid hHeld.size
      refine hK.out _ _ (hHeld.trans (kR.mono hHeld.size)) (fun hS2 => ?_)
      clear hK K' hHeld
      have hHeld := hS2
      clear hS2
      try simp only [Act.put, List.setIfInBounds_toArray, List.set_cons_zero, List.set_cons_succ]
      replace B := B.later kR
      replace R := R.at0 hzR.out
      clear kR hzR
      refine takeL (i := 13) (v := .agg #[.int .i64 b.valid, .string b.user, .string b.name, .int .i64 b.next, .slice pR b.mails.length qR]) rfl (by kernel_rfl) (by kernel_rfl) (by kernel_rfl) (fun _ _ _ h => h) (Or.inl ⟨by rfl, ?_⟩) (by assumption) ?_
      · intro x hSx; go_simp
      try simp only [Act.put, List.setIfInBounds_toArray, List.set_cons_zero, List.set_cons_succ]
      refine wpAnyH_ready (rs := [15]) (by kernel_rfl) (by simp) ?_
      refine readyOne rfl (fun K' hK => ?_)
      obtain ⟨z0, z1, z2, z3, z4⟩ := B.five
      have f0 := B.loose 0
      have f1 := B.loose 1
      have f2 := B.loose 2
      have f3 := B.loose 3
      have f4 := B.loose 4
      go_simp
      clear z0 z1 z2 z3 z4 f0 f1 f2 f3 f4
      have FB := B.set5' (.int .i64 b.valid) (.string b.user) (.string b.name) (.int .i64 b.next) (.slice pR b.mails.length qR)
      have FR := (((((R.aside2 hne 0 (.int .i64 b.valid)).aside2 hne 1 (.string b.user)).aside2 hne 2 (.string b.name)).aside2 hne 3 (.int .i64 b.next)).aside2 hne 4 (.slice pR b.mails.length qR))
      refine hK.out _ _ ((((((hHeld.setCell (p := ⟨gA, 0, none⟩) hgA.out (.int .i64 b.valid)).setCell (p := ⟨gA, 1, none⟩) hgA.out (.string b.user)).setCell (p := ⟨gA, 2, none⟩) hgA.out (.string b.name)).setCell (p := ⟨gA, 3, none⟩) hgA.out (.int .i64 b.next)).setCell (p := ⟨gA, 4, none⟩) hgA.out (.slice pR b.mails.length qR))) (fun hS2 => ?_)
      clear hK K' hHeld
      have hHeld := hS2
      clear hS2
      try simp only [Act.put, List.setIfInBounds_toArray, List.set_cons_zero, List.set_cons_succ]
      refine wpAnyH_done (by kernel_rfl) ?_ _
      go_wp2_with fail
      go_meet
      exact ⟨gA, pR, qR, rfl, FB, FR, hne, hgA.out, hHeld⟩
  case rest =>
    obtain ⟨g, pR, qR, rfl, FB, FR, hne, hg, k2⟩ := hcut
    have HFB : Hid (∀ x, Below wc.heap.size wc x → Box x g #[.int .i64 b.valid, .string b.user, .string b.name, .int .i64 b.next, .slice pR b.mails.length qR] 32) := fun x hx => FB.later hx
    have HFR : Hid (∀ x, Below wc.heap.size wc x → RBuf mlE w1.heap.size x x (.slice pR b.mails.length qR) b.mails) := fun x hx => (FR.later hx).here
    have HK := Lib.hid k2
    have HG := Lib.hid hg
    have HNE := Lib.hid hne
    have HT := Lib.hid ht
    clear HR HC k2 hg hne ht
    have m4 := FB.cell 4 (.slice pR b.mails.length qR) rfl
    clear FB FR
    go_wp2
    go_loopw [22] (fun iv wr => ∃ i : Nat, i ≤ b.mails.length ∧ iv = .int .i64 (i : Int) ∧ Below wc.heap.size wc wr) (fun iv _ => b.mails.length - (intOf iv).toNat)
    case atStart => exact ⟨0, by omega, rfl, Below.refl _ _⟩
    case round =>
      clear m4
      obtain ⟨i, hi, rfl, hbr⟩ := hrel
      by_cases hlt : i < b.mails.length
      · have hi0 : (0 : Int) ≤ (i : Int) := by omega
        have hi1 : (i : Int) < (b.mails.length : Int) := by omega
        have E1 := HFR.out _ hbr
        have E2 := HFB.out _ hbr
        obtain ⟨g1, rfl⟩ : ∃ g1 : Nat, pR = some ⟨g1, 0, none⟩ := by
          rcases E1.own.2 with ⟨_, e⟩ | ⟨g, cap, cur, e, _⟩
          · omega
          · simp only [Value.slice.injEq] at e; exact ⟨g, e.1⟩
        have hat := List.getElem?_eq_getElem hlt
        have cS : wr.cell? ⟨g1, i * 3 + 2, none⟩ = some (.string b.mails[i].text) := E1.cell rfl i _ hat 2 _ rfl
        have fS : wr.frozen? ⟨g1, i * 3 + 2, none⟩ = false := E1.loose _
        have k0 := E2.cell 4 (.slice (some ⟨g1, 0, none⟩) b.mails.length qR) rfl
        have htz := HT.out _ (List.getElem_mem hlt)
        clear hat E1 E2
        generalize b.mails[i].text = t at *
        have HK0 : Hid (wr.drew.cell? ⟨g, 4, none⟩ = some (.slice (some ⟨g1, 0, none⟩) b.mails.length qR) ∧ wr.drew.cell? ⟨g1, i * 3 + 2, none⟩ = some (.string t) ∧ wr.drew.frozen? ⟨g1, i * 3 + 2, none⟩ = false ∧ Below wr.heap.size wr wr.drew) := ⟨k0, cS, fS, (Below.refl _ _).drew⟩
        have HK1 : Hid (∀ x y : World, (x.cell? ⟨g, 4, none⟩ = some (.slice (some ⟨g1, 0, none⟩) b.mails.length qR) ∧ x.cell? ⟨g1, i * 3 + 2, none⟩ = some (.string t) ∧ x.frozen? ⟨g1, i * 3 + 2, none⟩ = false ∧ Below wr.heap.size wr x) → Below x.heap.size x y → (y.cell? ⟨g, 4, none⟩ = some (.slice (some ⟨g1, 0, none⟩) b.mails.length qR) ∧ y.cell? ⟨g1, i * 3 + 2, none⟩ = some (.string t) ∧ y.frozen? ⟨g1, i * 3 + 2, none⟩ = false ∧ Below wr.heap.size wr y)) :=
          fun x y h hb => ⟨(hb.cell (p := ⟨g, 4, none⟩) (World.block_lt_of_cell? _ _ h.1)).trans h.1, (hb.cell (p := ⟨g1, i * 3 + 2, none⟩) (World.block_lt_of_cell? _ _ h.2.1)).trans h.2.1, (hb.frozen (p := ⟨g1, i * 3 + 2, none⟩) (World.block_lt_of_cell? _ _ h.2.1)).trans h.2.2.1, h.2.2.2.trans (hb.mono h.2.2.2.size)⟩
        have HK2 : Hid (∀ x : World, (x.cell? ⟨g, 4, none⟩ = some (.slice (some ⟨g1, 0, none⟩) b.mails.length qR) ∧ x.cell? ⟨g1, i * 3 + 2, none⟩ = some (.string t) ∧ x.frozen? ⟨g1, i * 3 + 2, none⟩ = false ∧ Below wr.heap.size wr x) → ((x.setCell ⟨g1, i * 3 + 2, none⟩ (.string t)).cell? ⟨g, 4, none⟩ = some (.slice (some ⟨g1, 0, none⟩) b.mails.length qR) ∧ (x.setCell ⟨g1, i * 3 + 2, none⟩ (.string t)).cell? ⟨g1, i * 3 + 2, none⟩ = some (.string t) ∧ (x.setCell ⟨g1, i * 3 + 2, none⟩ (.string t)).frozen? ⟨g1, i * 3 + 2, none⟩ = false ∧ Below wr.heap.size wr (x.setCell ⟨g1, i * 3 + 2, none⟩ (.string t)))) :=
          fun x h => by rw [setCell_self h.2.1]; exact h
        go_wp2
        go_region_held3 (fun x => x.cell? ⟨g, 4, none⟩ = some (.slice (some ⟨g1, 0, none⟩) b.mails.length qR) ∧ x.cell? ⟨g1, i * 3 + 2, none⟩ = some (.string t) ∧ x.frozen? ⟨g1, i * 3 + 2, none⟩ = false ∧ Below wr.heap.size wr x)
          (first | exact HK0.out | exact HK1.out _ _ (by assumption) k1 | exact HK2.out _ (by assumption))
          (first | (go_at_call 38; refine (clone_any _ _ (by omega)).mono ?_; rintro e w1 ⟨rfl, k1⟩))
        all_goals
          rename_i hHeld
          have BH := Lib.hid hHeld.2.2.2
          clear hHeld HK0 HK1 HK2
          go_wp2
          go_roundw
          case rel => exact ⟨i + 1, by omega, by go_num, hbr.trans (BH.out.mono hbr.size)⟩
          case measure => simp [intOf]; omega
      · have E1 := Lib.hid (HFR.out _ hbr)
        have E2 := HFB.out _ hbr
        have kE := Lib.hid (HK.out.trans (hbr.mono HK.out.size))
        have X2 := H2.out _ kE.out
        have hlt2 : Hid (w.heap.size + 1 < w1.heap.size) := (H2.out _ (Below.refl _ _)).lt
        have hneg : Hid (w.heap.size + 1 ≠ g) := by have := HG.out; have := hlt2.out; show _ ≠ _; omega
        clear HFR HFB HK HT H2
        obtain ⟨y0, y1, y2, y3, y4⟩ := E2.five
        obtain ⟨u0, u1, u2, u3, u4⟩ := X2.five
        have f0 := X2.loose 0
        have f1 := X2.loose 1
        have f2 := X2.loose 2
        have f3 := X2.loose 3
        have f4 := X2.loose 4
        have L5 := X2.set5' (.int .i64 b.valid) (.string b.user) (.string b.name) (.int .i64 b.next) (.slice pR b.mails.length qR)
        obtain ⟨z0, z1, z2, z3, z4⟩ := L5.five
        have hrn : Hid ((Value.slice pR b.mails.length qR).ownBlock ≠ some (w.heap.size + 1)) := fun e => by have h5 := (E1.out.own.lt _ e).1; have := hlt2.out; omega
        clear L5 X2 E2
        go_wp2
        refine bodyPost_ret (v := .agg #[.int .i64 b.valid, .string b.user, .string b.name, .int .i64 b.next, .slice pR b.mails.length qR]) (by simp [results, Try.results35, go_sem, z0, z1, z2, z3, z4]) rfl ⟨_, rfl, ?_, ?_⟩
        · exact (((((E1.out.aside2 hrn.out 0 _).aside2 hrn.out 1 _).aside2 hrn.out 2 _).aside2 hrn.out 3 _).aside2 hrn.out 4 _).lower (by have := hlt2.out; omega)
        · have hle : w.heap.size ≤ w.heap.size + 1 := by omega
          have hbb := HB1.out.trans (kE.out.mono HB1.out.size)
          exact ((((hbb.setCell (p := ⟨w.heap.size + 1, 0, none⟩) hle _).setCell (p := ⟨w.heap.size + 1, 1, none⟩) hle _).setCell (p := ⟨w.heap.size + 1, 2, none⟩) hle _).setCell (p := ⟨w.heap.size + 1, 3, none⟩) hle _).setCell (p := ⟨w.heap.size + 1, 4, none⟩) hle _

end Go.Proofs.Ytmahicpheimnjaa

/- What records tell: the program's BoxOf. -/
namespace Go.Proofs.Ytmahicpheimnjaa
open Go.RowKit

set_option maxRecDepth 100000 in
set_option maxHeartbeats 2000000 in
theorem implBoxOf_any (ps : List Bx) (va : Value) (u nm : ByteArray) (w : World) (ha : BRd w va ps) (hla : ps.length ≤ 1048576) (hma : ∀ b ∈ ps, b.mails.length ≤ 1048576 ∧ b.user.size ≤ 1099511627776 ∧ b.name.size ≤ 1099511627776 ∧ ∀ m ∈ b.mails, m.text.size ≤ 1099511627776) :
    Calls Try.prog 9 #[.agg #[va], .string u, .string nm] w fun e w' => ((boxOf ps u nm = none ∧ e = .returned (.tuple #[.agg #[.int .i64 0, .string ⟨#[]⟩, .string ⟨#[]⟩, .int .i64 0, .slice none 0 0], .bool false])) ∨ ∃ (x : Bx) (v : Value), boxOf ps u nm = some x ∧ e = .returned (.tuple #[.agg #[.int .i64 x.valid, .string x.user, .string x.name, .int .i64 x.next, v], .bool true]) ∧ RBuf mlE w.heap.size w' w' v x.mails) ∧ Below w.heap.size w w' := by
  obtain ⟨ad, cap, rfl, hrowa⟩ := ha.boxes
  have HA := Lib.hid hrowa
  have HMA := Lib.hid hma
  clear ha hrowa hma
  obtain ⟨n, hn⟩ : ∃ n, ps.length = n := ⟨_, rfl⟩
  have HN := Lib.hid hn
  rw [hn] at hla ⊢
  clear hn
  obtain ⟨D, hD⟩ : ∃ D, boxOf ps u nm = D := ⟨_, rfl⟩
  have HD := Lib.hid hD
  rw [hD]
  clear hD
  have b1 : Below w.heap.size w ((w.alloc (.cells #[.slice ad n cap] 28)).alloc (.cells #[.int .i64 0, .string ⟨#[]⟩, .string ⟨#[]⟩, .int .i64 0, .slice none 0 0] 32)) := ((Below.refl _ _).alloc (Nat.le_refl _) _).alloc (by simp) _
  have X2 := (Box.new w #[.slice ad n cap] 28).later (belNew _ (.cells #[.int .i64 0, .string ⟨#[]⟩, .string ⟨#[]⟩, .int .i64 0, .slice none 0 0] 32))
  have X3 : Box ((w.alloc (.cells #[.slice ad n cap] 28)).alloc (.cells #[.int .i64 0, .string ⟨#[]⟩, .string ⟨#[]⟩, .int .i64 0, .slice none 0 0] 32)) (w.heap.size + 1) #[.int .i64 0, .string ⟨#[]⟩, .string ⟨#[]⟩, .int .i64 0, .slice none 0 0] 32 := by
    have := Box.new (w.alloc (.cells #[.slice ad n cap] 28)) #[.int .i64 0, .string ⟨#[]⟩, .string ⟨#[]⟩, .int .i64 0, .slice none 0 0] 32
    rwa [show (w.alloc (.cells #[.slice ad n cap] 28)).heap.size = w.heap.size + 1 from by simp] at this
  go_enter Try.func9, Try.ntmps9
  go_upto_region 1 with fail
  generalize (w.alloc (.cells #[.slice ad n cap] 28)).alloc (.cells #[.int .i64 0, .string ⟨#[]⟩, .string ⟨#[]⟩, .int .i64 0, .slice none 0 0] 32) = w1 at b1 X2 X3 ⊢
  have BW := Lib.hid b1
  have H2 := Lib.hid X2
  have H3 := Lib.hid X3
  have Y2 : w1.cell? ⟨w.heap.size, 0, none⟩ = some (.slice ad n cap) := H2.out.cell 0 _ rfl
  clear b1 X2 X3
  go_wp2
  go_loopw [13] (fun iv wr => ∃ i : Nat, i ≤ n ∧ iv = .int .i64 (i : Int) ∧ (∀ (j : Nat) (y : Bx), ps[j]? = some y → j < i → ¬ (y.user = u ∧ y.name = nm)) ∧ Below w1.heap.size w1 wr) (fun iv _ => n - (intOf iv).toNat)
  case atStart => exact ⟨0, by omega, rfl, fun j y _ hj => by omega, Below.refl _ _⟩
  case round =>
    obtain ⟨i, hi, rfl, hU, hbr⟩ := hrel
    clear Y2
    have BR := Lib.hid (BW.out.trans (hbr.mono BW.out.size))
    have HU := Lib.hid hU
    clear hU
    by_cases hlt : i < n
    · obtain ⟨x, hgx⟩ : ∃ x, ps[i]? = some x := ⟨_, List.getElem?_eq_getElem (by rw [HN.out]; exact hlt)⟩
      have hmx := HMA.out x (List.mem_of_getElem? hgx)
      obtain ⟨gp, op, a1, n1, c1, rfl, p0, p1, p2, p3, p4, ra⟩ := HA.out _ BR.out i _ hgx
      obtain ⟨hn1, _⟩ := ra.mails
      subst hn1
      have HRA := Lib.hid ((ra.later BR.out).later (belNew wr (.cells #[.int .i64 x.valid, .string x.user, .string x.name, .int .i64 x.next, .slice a1 x.mails.length c1] 32)))
      have NB := Lib.hid (Box.new wr #[.int .i64 x.valid, .string x.user, .string x.name, .int .i64 x.next, .slice a1 x.mails.length c1] 32)
      have NK := Lib.hid (hbr.trans ((belNew wr (.cells #[.int .i64 x.valid, .string x.user, .string x.name, .int .i64 x.next, .slice a1 x.mails.length c1] 32)).mono hbr.size))
      have HX := Lib.hid hgx
      have hi0 : (0 : Int) ≤ (i : Int) := by omega
      have hi1 : (i : Int) < (n : Int) := by omega
      clear hgx ra
      have HSK : Hid (∀ (h : ¬ (x.user = u ∧ x.name = nm)), ∀ (j : Nat) (y : Bx), ps[j]? = some y → j < i + 1 → ¬ (y.user = u ∧ y.name = nm)) := by
        intro h j y hj hji
        by_cases c : j = i
        · subst c; have := HX.out; rw [hj] at this; cases this; exact h
        · exact HU.out j y hj (by omega)
      by_cases hu : x.user = u
      · subst hu
        by_cases hm : x.name = nm
        · subst hm
          have HE : Hid (D = some x) := by rw [← HD.out]; exact boxOf_at HX.out ⟨rfl, rfl⟩ HU.out
          clear HSK
          go_upto_region 4 with fail
          generalize wr.alloc (.cells #[.int .i64 x.valid, .string x.user, .string x.name, .int .i64 x.next, .slice a1 x.mails.length c1] 32) = wn at HRA NB NK ⊢
          generalize wr.heap.size = gn at NB ⊢
          obtain ⟨r0, r1, r2, r3, r4⟩ := NB.out.five
          have N3 := Lib.hid (H3.out.later NK.out)
          have BW := Lib.hid (BW.out.trans (NK.out.mono BW.out.size))
          have LT := Lib.hid (Nat.lt_of_lt_of_le H3.out.lt NK.out.size)
          obtain ⟨hm1, hm2, hm3, hm4⟩ := hmx
          go_wp2_with (go_at_call 35; refine (copyBox_any x a1 c1 wn HRA.out hm1 hm2 hm3 hm4).mono ?_; rintro e w2 ⟨v, rfl, hv, k2⟩; obtain ⟨pv, cv, rfl⟩ := hv.form; have HV := Lib.hid hv; have HK2 := Lib.hid k2; have HL := Lib.hid (N3.out.later k2); obtain ⟨u0, u1, u2, u3, u4⟩ := HL.out.five; have f0 := HL.out.loose 0; have f1 := HL.out.loose 1; have f2 := HL.out.loose 2; have f3 := HL.out.loose 3; have f4 := HL.out.loose 4; have L5 : Box (set5 w2 (w.heap.size + 1) (.int .i64 x.valid) (.string x.user) (.string x.name) (.int .i64 x.next) (.slice pv x.mails.length cv)) (w.heap.size + 1) #[.int .i64 x.valid, .string x.user, .string x.name, .int .i64 x.next, .slice pv x.mails.length cv] 32 := ((((HL.out.set 0 _).set 1 _).set 2 _).set 3 _).set 4 _; unfold set5 at L5; obtain ⟨z0, z1, z2, z3, z4⟩ := L5.five; clear L5 hv k2)
          refine bodyPost_ret (v := .tuple #[.agg #[.int .i64 x.valid, .string x.user, .string x.name, .int .i64 x.next, .slice pv x.mails.length cv], .bool true]) (by simp [results, Try.results9, go_sem, z0, z1, z2, z3, z4]) rfl ⟨.inr ⟨x, _, HE.out, rfl, ?_⟩, ?_⟩
          · have hq := LT.out
            exact (((((HV.out.aside _ 0 _ hq).aside _ 1 _ hq).aside _ 2 _ hq).aside _ 3 _ hq).aside _ 4 _ hq).lower BW.out.size
          · exact (((((BW.out.trans (HK2.out.mono BW.out.size)).setCell (p := ⟨w.heap.size + 1, 0, none⟩) (by simp) _).setCell (p := ⟨w.heap.size + 1, 1, none⟩) (by simp) _).setCell (p := ⟨w.heap.size + 1, 2, none⟩) (by simp) _).setCell (p := ⟨w.heap.size + 1, 3, none⟩) (by simp) _).setCell (p := ⟨w.heap.size + 1, 4, none⟩) (by simp) _
        · have hm' : (x.name.toList == nm.toList) = false := by rw [beq_eq_false_iff_ne]; exact fun h => hm ((ba_same' _ _).1 h)
          have HK := Lib.hid (HSK.out (fun h => hm h.2))
          clear HSK hmx
          go_upto_region 4 with fail
          generalize wr.alloc (.cells #[.int .i64 x.valid, .string x.user, .string x.name, .int .i64 x.next, .slice a1 x.mails.length c1] 32) = wn at HRA NB NK ⊢
          generalize wr.heap.size = gn at NB ⊢
          obtain ⟨r0, r1, r2, r3, r4⟩ := NB.out.five
          go_wp2
          go_roundw
          case rel => exact ⟨i + 1, by omega, by go_num, HK.out, NK.out⟩
          case measure => simp [intOf]; omega
      · have hu' : (x.user.toList == u.toList) = false := by rw [beq_eq_false_iff_ne]; exact fun h => hu ((ba_same' _ _).1 h)
        have HK := Lib.hid (HSK.out (fun h => hu h.1))
        clear HSK hmx
        go_upto_region 4 with fail
        generalize wr.alloc (.cells #[.int .i64 x.valid, .string x.user, .string x.name, .int .i64 x.next, .slice a1 x.mails.length c1] 32) = wn at HRA NB NK ⊢
        generalize wr.heap.size = gn at NB ⊢
        obtain ⟨r0, r1, r2, r3, r4⟩ := NB.out.five
        go_wp2
        go_roundw
        case rel => exact ⟨i + 1, by omega, by go_num, HK.out, NK.out⟩
        case measure => simp [intOf]; omega
    · have HE : Hid (D = none) := by rw [← HD.out]; exact boxOf_none (fun j y hj => HU.out j y hj (by have := (List.getElem?_eq_some_iff.1 hj).1; have := HN.out; omega))
      have H3 := Lib.hid (H3.out.later hbr)
      have BW := BR
      obtain ⟨u0, u1, u2, u3, u4⟩ := H3.out.five
      have f0 := H3.out.loose 0
      have f1 := H3.out.loose 1
      have f2 := H3.out.loose 2
      have f3 := H3.out.loose 3
      have f4 := H3.out.loose 4
      have L5 : Box (set5 wr (w.heap.size + 1) (.int .i64 0) (.string ⟨#[]⟩) (.string ⟨#[]⟩) (.int .i64 0) (.slice none 0 0)) (w.heap.size + 1) #[.int .i64 0, .string ⟨#[]⟩, .string ⟨#[]⟩, .int .i64 0, .slice none 0 0] 32 := ((((H3.out.set 0 _).set 1 _).set 2 _).set 3 _).set 4 _
      unfold set5 at L5
      obtain ⟨z0, z1, z2, z3, z4⟩ := L5.five
      clear L5
      go_wp2
      refine bodyPost_ret (v := .tuple #[.agg #[.int .i64 0, .string ⟨#[]⟩, .string ⟨#[]⟩, .int .i64 0, .slice none 0 0], .bool false]) (by simp [results, Try.results9, go_sem, z0, z1, z2, z3, z4]) rfl ⟨.inl ⟨HE.out, rfl⟩, ?_⟩
      exact ((((BW.out.setCell (p := ⟨w.heap.size + 1, 0, none⟩) (by simp) _).setCell (p := ⟨w.heap.size + 1, 1, none⟩) (by simp) _).setCell (p := ⟨w.heap.size + 1, 2, none⟩) (by simp) _).setCell (p := ⟨w.heap.size + 1, 3, none⟩) (by simp) _).setCell (p := ⟨w.heap.size + 1, 4, none⟩) (by simp) _

end Go.Proofs.Ytmahicpheimnjaa

/- The helpers of the exact laws over lists of writes: two alike are alike; each is marked, and the marks are held. -/
namespace Go.Proofs.Ytmahicpheimnjaa
open Go.RowKit

theorem eqWrite_same (n : Int) (s : ByteArray) (w : World) :
    Calls Try.prog 109 #[.agg #[.int .i64 n, .string s], .agg #[.int .i64 n, .string s]] w fun e w' => e = .returned (.bool true) ∧ Below w.heap.size w w' := by
  go_enter Try.func109, Try.ntmps109
  go_wp2
  go_ret
  exact ⟨rfl, ((Below.refl _ _).alloc (Nat.le_refl _) _).alloc (by simp) _⟩

/-- The two cells of a write. -/
theorem wr_cells {E : Enc Wr} (hf : E.f = wrE.f) (hz : E.sz = 2) {w w' : World} {g off : Nat} {l : List Wr} (hc : ∀ j x, l[j]? = some x → ∀ k u, (E.f x)[k]? = some u → w.cell? ⟨g, off + j * E.sz + k, none⟩ = some u)
    (hg : g < w.heap.size) (hb : Below w.heap.size w w') (i : Nat) (x : Wr) (hi : l[i]? = some x) :
    w'.cell? ⟨g, off + i * 2, none⟩ = some (.int .i64 x.at_) ∧ w'.cell? ⟨g, off + i * 2 + 1, none⟩ = some (.string x.text) := by
  have h0 := hc i x hi 0 (.int .i64 x.at_) (by rw [hf]; rfl)
  have h1 := hc i x hi 1 (.string x.text) (by rw [hf]; rfl)
  rw [hz] at h0 h1
  exact ⟨(hb.cell (p := ⟨g, off + i * 2, none⟩) hg).trans h0, (hb.cell (p := ⟨g, off + i * 2 + 1, none⟩) hg).trans h1⟩

set_option maxRecDepth 100000 in
set_option maxHeartbeats 1000000 in
theorem eqWriteS_same (l : List Wr) (va vb : Value) (w : World) (ha : Rows' wrE w va l) (hb : Rows' wrE w vb l) (hl : l.length ≤ 1099511627776) :
    Calls Try.prog 77 #[va, vb] w fun e w' => e = .returned (.bool true) ∧ Below w.heap.size w w' := by
  rcases ha.ways with ⟨rfl, a, c, rfl⟩ | ⟨hne, ga, oa, ca, rfl, hca, hga, hcla⟩
  · rcases hb.ways with ⟨_, b, d, rfl⟩ | ⟨hne, _⟩
    · clear ha hb
      go_enter Try.func77, Try.ntmps77
      go_wp2
      go_loop [5] (fun iv => iv = .int .i64 0) (fun _ => 0)
      case atStart => rfl
      case round =>
        obtain rfl := hrel
        go_wp2
        go_ret
        exact ⟨rfl, Below.refl _ _⟩
    · exact absurd rfl hne
  · rcases hb.ways with ⟨e, _⟩ | ⟨_, gb, ob, cb, rfl, hcb, hgb, hclb⟩
    · exact absurd e hne
    · clear ha hb
      have HA := Lib.hid hcla
      have HB := Lib.hid hclb
      clear hcla hclb
      go_enter Try.func77, Try.ntmps77
      go_wp2
      go_loopw [5] (fun iv wr => ∃ i : Nat, i ≤ l.length ∧ iv = .int .i64 (i : Int) ∧ Below w.heap.size w wr) (fun iv _ => l.length - (intOf iv).toNat)
      case atStart => exact ⟨0, by omega, rfl, Below.refl _ _⟩
      case round =>
        obtain ⟨i, hi, rfl, hbel⟩ := hrel
        by_cases hlt : i < l.length
        · have hg : l[i]? = some l[i] := List.getElem?_eq_getElem hlt
          obtain ⟨a0, a1⟩ := wr_cells rfl rfl HA.out hga hbel i _ hg
          obtain ⟨b0, b1⟩ := wr_cells rfl rfl HB.out hgb hbel i _ hg
          generalize l[i] = t at *
          obtain ⟨n, s⟩ := t
          simp only at a0 a1 b0 b1
          have hi0 : (0 : Int) ≤ (i : Int) := by omega
          have hi1 : (i : Int) < (l.length : Int) := by omega
          have HS : Hid (∀ w', Below wr.drew.heap.size wr.drew w' → w'.cell? ⟨ga, oa + i * 2, none⟩ = some (.int .i64 n) ∧ w'.cell? ⟨ga, oa + i * 2 + 1, none⟩ = some (.string s) ∧ w'.cell? ⟨gb, ob + i * 2, none⟩ = some (.int .i64 n) ∧ w'.cell? ⟨gb, ob + i * 2 + 1, none⟩ = some (.string s)) := by
            intro w' hw
            have hw2 : Below w.heap.size w w' := hbel.drew.trans (hw.mono hbel.size)
            obtain ⟨a0, a1⟩ := wr_cells rfl rfl HA.out hga hw2 i _ hg
            obtain ⟨b0, b1⟩ := wr_cells rfl rfl HB.out hgb hw2 i _ hg
            exact ⟨a0, a1, b0, b1⟩
          clear hg
          go_wp2
          go_region_held3 (fun w' => w'.cell? ⟨ga, oa + i * 2, none⟩ = some (.int .i64 n) ∧ w'.cell? ⟨ga, oa + i * 2 + 1, none⟩ = some (.string s) ∧ w'.cell? ⟨gb, ob + i * 2, none⟩ = some (.int .i64 n) ∧ w'.cell? ⟨gb, ob + i * 2 + 1, none⟩ = some (.string s))
            (first | go_keep | exact HS.out _ hb1)
            (first | (go_at_call 109; refine (eqWrite_same _ _ _).mono ?_; rintro e w1 ⟨rfl, hb1⟩))
          all_goals
            go_wp2
            go_roundw
            case rel => exact ⟨i + 1, by omega, by go_num, hbel.drew.trans (hb1.mono hbel.size)⟩
            case measure => simp [intOf]; omega
        · go_wp2
          go_ret
          exact ⟨rfl, hbel⟩

/-- The marks of a list of writes. -/
def markW (k : Nat) (j : Nat) : Wr := ⟨((k + 2 * j : Nat) : Int), mark (k + 2 * j + 1)⟩
def marksW (k n : Nat) : List Wr := (List.range n).map (markW k)
theorem marksW_length (k n : Nat) : (marksW k n).length = n := by simp [marksW]
theorem marksW_at {k n i : Nat} (h : i < n) : (marksW k n)[i]? = some (markW k i) := by simp [marksW, h]

set_option maxRecDepth 100000 in
set_option maxHeartbeats 1000000 in
theorem markWriteS_any (l : List Wr) (v : Value) (k B : Nat) (w0 w : World) (hb : RBuf wrE B w0 w v l) (hk : 1 ≤ k) (hk2 : k + 2 * l.length ≤ 1099511627776) :
    Calls Try.prog 80 #[v, .int .i64 (k : Int)] w fun e w' => e = .returned (.int .i64 ((k + 2 * l.length : Nat) : Int)) ∧ RBuf wrE B w0 w' v (marksW k l.length) ∧ w.grownBy w' v.ownBlock := by
  rcases hb.own.2 with ⟨rfl, h0⟩ | ⟨g, cap, cur, rfl, hg, hh, hnc, hcp, hcs, htake⟩
  · obtain rfl := List.length_eq_zero_iff.1 h0
    go_enter Try.func80, Try.ntmps80
    go_wp2
    go_loop [1, 5] (fun kv iv => kv = .int .i64 (k : Int) ∧ iv = .int .i64 0) (fun _ _ => 0)
    case atStart => exact ⟨rfl, rfl⟩
    case round =>
      obtain ⟨rfl, rfl⟩ := hrel
      go_wp2
      go_ret
      exact ⟨rfl, hb, World.grownBy.refl _ _⟩
  · clear hh hcs htake hcp
    have hle : l.length ≤ 1099511627776 := by omega
    go_enter Try.func80, Try.ntmps80
    go_wp2
    go_loopw [1, 5] (fun kv iv wr => ∃ i : Nat, i ≤ l.length ∧ iv = .int .i64 (i : Int) ∧ kv = .int .i64 ((k + 2 * i : Nat) : Int) ∧ RBuf wrE B w0 wr (.slice (some ⟨g, 0, none⟩) l.length cap) (putTo (markW k) l i) ∧ w.grownBy wr (some g)) (fun _ iv _ => l.length - (intOf iv).toNat)
    case atStart => exact ⟨0, by omega, rfl, rfl, by rw [putTo_zero]; exact hb, World.grownBy.refl _ _⟩
    case round =>
      obtain ⟨i, hi, rfl, rfl, hbr, hgr⟩ := hrel
      by_cases hlt : i < l.length
      · have hi0 : (0 : Int) ≤ (i : Int) := by omega
        have hi1 : (i : Int) < (l.length : Int) := by omega
        have hml := putTo_length (m := markW k) hi
        have hat := putTo_at (m := markW k) hlt
        have hms := Lib.hid (putTo_set (m := markW k) hlt)
        rw [← hml] at hbr
        obtain ⟨K, hK⟩ : ∃ K : Nat, K = k + 2 * i := ⟨_, rfl⟩
        have HK := Lib.hid hK
        rw [← hK]
        have hK1 : K + 1 ≤ 4611686018427387904 := by omega
        have hK2 : 1 ≤ K := by omega
        clear hK
        have c0 : wr.cell? ⟨g, i * 2, none⟩ = some (.int .i64 l[i].at_) := hbr.cell rfl i _ hat 0 _ rfl
        have f0 := hbr.loose (i * 2)
        have st0 : RBuf wrE B w0 (wr.setCell ⟨g, i * 2, none⟩ (.int .i64 (K : Int))) (.slice (some ⟨g, 0, none⟩) (putTo (markW k) l i).length cap) ((putTo (markW k) l i).set i ⟨(K : Int), l[i].text⟩) :=
          hbr.stored i _ ⟨(K : Int), l[i].text⟩ hat 0 (by decide) (.int .i64 (K : Int)) rfl
        have hg0 := grownBy_store wr g (i * 2) (.int .i64 (K : Int))
        have HF : Hid (∀ w1, Below (wr.setCell ⟨g, i * 2, none⟩ (.int .i64 (K : Int))).heap.size (wr.setCell ⟨g, i * 2, none⟩ (.int .i64 (K : Int))) w1 →
            (∃ t, w1.cell? ⟨g, i * 2 + 1, none⟩ = some (.string t)) ∧ w1.frozen? ⟨g, i * 2 + 1, none⟩ = false ∧
            RBuf wrE B w0 (w1.setCell ⟨g, i * 2 + 1, none⟩ (.string (mark (K + 1)))) (.slice (some ⟨g, 0, none⟩) l.length cap) (putTo (markW k) l (i + 1)) ∧ w.grownBy (w1.setCell ⟨g, i * 2 + 1, none⟩ (.string (mark (K + 1)))) (some g)) := by
          intro w1 hb1
          have st1 := st0.later hb1
          have hat1 : ((putTo (markW k) l i).set i ⟨(K : Int), l[i].text⟩)[i]? = some ⟨(K : Int), l[i].text⟩ := List.getElem?_set_self (by omega)
          have hl1 : ((putTo (markW k) l i).set i ⟨(K : Int), l[i].text⟩).length = (putTo (markW k) l i).length := by simp
          rw [← hl1] at st1
          have st2 := st1.stored i _ ⟨(K : Int), mark (K + 1)⟩ hat1 1 (by decide) (.string (mark (K + 1))) rfl
          rw [List.set_set, hl1, hml] at st2
          have e : (⟨(K : Int), mark (K + 1)⟩ : Wr) = markW k i := by rw [HK.out]; rfl
          rw [e, hms.out] at st2
          exact ⟨⟨_, st1.cell rfl i _ hat1 1 _ rfl⟩, st1.loose _, st2, ((hgr.trans hg0).trans (grownBy_of_below hb1 _)).trans (grownBy_store _ _ _ _)⟩
        clear hbr hat st0 hg0 hgr
        go_wp2_with (go_at_call 111; refine (markText_at _ (K + 1) _ (by omega) (by omega) (by omega)).mono ?_; rintro e w1 ⟨rfl, hb1⟩; obtain ⟨⟨t, hc1⟩, hf1, hst, hgr⟩ := HF.out w1 hb1)
        go_roundw
        case rel => exact ⟨i + 1, by omega, by go_num, by rw [HK.out]; go_num, hst, hgr⟩
        case measure => simp [intOf]; omega
      · have hfin : Hid (i = l.length) := by show i = l.length; omega
        go_wp2
        go_ret
        refine ⟨?_, ?_, hgr⟩
        · rw [← hfin.out]; rfl
        · have := hbr
          rw [hfin.out, putTo_all] at this
          exact this

/-! Lists of texts as rows. -/

theorem strE_row (l : List ByteArray) : strE.row l = strV l := by
  induction l with
  | nil => rfl
  | cons x l ih =>
    have : strE.row (x :: l) = .string x :: strE.row l := rfl
    rw [this, ih]; rfl

theorem RBuf.toS {B : Nat} {w0 w : World} {v : Value} {l : List ByteArray} (h : RBuf strE B w0 w v l) : SBuf B w0 w v l :=
  ⟨by have := h.own; rw [strE_row] at this; exact this, h.bel, h.le⟩
theorem SBuf.toR {B : Nat} {w0 w : World} {v : Value} {l : List ByteArray} (h : SBuf B w0 w v l) : RBuf strE B w0 w v l :=
  ⟨by rw [strE_row]; exact h.own, h.bel, h.le⟩

set_option maxRecDepth 100000 in
set_option maxHeartbeats 1000000 in
theorem markStringS_row (l : List ByteArray) (v : Value) (k B : Nat) (w0 w : World) (hb : SBuf B w0 w v l) (hk : 1 ≤ k) (hk2 : k + l.length ≤ 1099511627776) :
    Calls Try.prog 79 #[v, .int .i64 (k : Int)] w fun e w' => e = .returned (.int .i64 ((k + l.length : Nat) : Int)) ∧ SBuf B w0 w' v (marksOf k l.length) ∧ w.grownBy w' v.ownBlock := by
  rcases hb.own.2 with ⟨rfl, h0⟩ | ⟨g, cap, cur, rfl, hg, hh, hnc, hcp, hcs, htake⟩
  · obtain rfl := List.length_eq_zero_iff.1 h0
    go_enter Try.func79, Try.ntmps79
    go_wp2
    go_loop [1, 5] (fun kv iv => kv = .int .i64 (k : Int) ∧ iv = .int .i64 0) (fun _ _ => 0)
    case atStart => exact ⟨rfl, rfl⟩
    case round =>
      obtain ⟨rfl, rfl⟩ := hrel
      go_wp2
      go_ret
      exact ⟨rfl, hb, World.grownBy.refl _ _⟩
  · clear hh hcs htake hcp
    have hle : l.length ≤ 1099511627776 := by omega
    go_enter Try.func79, Try.ntmps79
    go_wp2
    go_loopw [1, 5] (fun kv iv wr => ∃ i : Nat, i ≤ l.length ∧ iv = .int .i64 (i : Int) ∧ kv = .int .i64 ((k + i : Nat) : Int) ∧ SBuf B w0 wr (.slice (some ⟨g, 0, none⟩) l.length cap) (markTo k l i) ∧ w.grownBy wr (some g)) (fun _ iv _ => l.length - (intOf iv).toNat)
    case atStart => exact ⟨0, by omega, rfl, rfl, by rw [markTo_zero]; exact hb, World.grownBy.refl _ _⟩
    case round =>
      obtain ⟨i, hi, rfl, rfl, hbr, hgr⟩ := hrel
      by_cases hlt : i < l.length
      · have hi0 : (0 : Int) ≤ (i : Int) := by omega
        have hi1 : (i : Int) < (l.length : Int) := by omega
        have hml := markTo_length (k := k) hi
        have hms : Hid ((markTo k l i).set i (mark (k + i)) = markTo k l (i + 1)) := markTo_set hlt
        have HF : Hid (∀ w1, Below wr.heap.size wr w1 → ∃ t, w1.cell? ⟨g, i, none⟩ = some (.string t) ∧ w1.frozen? ⟨g, i, none⟩ = false) := by
          intro w1 hb1
          have hb2 := hbr.later hb1
          rw [← hml] at hb2
          refine ⟨(markTo k l i)[i]'(by omega), ?_, hb2.own.frozenAt i⟩
          rw [hb2.own.cellAt i (by omega)]
          simp [strV]
        have HG := Lib.hid hgr
        clear hgr
        go_wp2_with (go_at_call 111; refine (markText_at _ (k + i) _ (by omega) (by omega) (by omega)).mono ?_; rintro e w1 ⟨rfl, hb1⟩; obtain ⟨t, hc1, hf1⟩ := HF.out w1 hb1)
        have hb2 := hbr.later hb1
        have hst : SBuf B w0 (w1.setCell ⟨g, i, none⟩ (.string (mark (k + i)))) (.slice (some ⟨g, 0, none⟩) l.length cap) (markTo k l (i + 1)) := by
          rw [← hml] at hb2
          have := hb2.stored i (mark (k + i))
          rw [hms.out, hml] at this
          exact this
        have hg2 := (HG.out.trans (grownBy_of_below hb1 (some g))).trans (grownBy_store w1 g i (.string (mark (k + i))))
        go_roundw
        case rel => exact ⟨i + 1, by omega, by go_num, by go_num, hst, hg2⟩
        case measure => simp [intOf]; omega
      · have hfin : Hid (i = l.length) := by show i = l.length; omega
        go_wp2
        go_ret
        refine ⟨?_, ?_, hgr⟩
        · rw [← hfin.out]; rfl
        · have := hbr
          rw [hfin.out, markTo_all] at this
          exact this

end Go.Proofs.Ytmahicpheimnjaa
