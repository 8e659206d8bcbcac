/- Texts of our own, joined. -/
import Derived.Test.YtgdkndlkapmhjaaJp
import Derived.Test.YtgdkndlkapmhjaaJj
import Derived.Test.YtgdkndlkapmhjaaJh
/- A box out of what is gathered of it. -/
namespace Go.Proofs.Ytgdkndlkapmhjaa
open Go.RowKit

set_option maxRecDepth 100000 in
set_option maxHeartbeats 4000000 in
theorem box_any (t : Tb) (a n : Nat) (w : World) (h : TbAt w a n t) (hn : n ≤ 1000) (hdom : ∀ u x, t.adds u = some x → iK.ok u ∧ x.2.text.size ≤ 1000) (hu : t.named.2.user.size ≤ 1000) (hnm : t.named.2.name.size ≤ 1000) :
    Calls Try.prog 24 #[.pointer (some ⟨a + 2, 0, none⟩)] w fun e w' => ∃ (pm : Option Addr) (cm : Nat) (ms : List Ml), e = .returned (.agg #[.int .i64 t.named.2.valid, .string t.named.2.user, .string t.named.2.name, .int .i64 t.next, .slice pm ms.length cm]) ∧ RBuf mlE w.heap.size w' w' (.slice pm ms.length cm) ms ∧ Below w.heap.size w w' ∧ (∀ m, m ∈ ms ↔ ∃ x, t.adds m.uid = some x ∧ m = mlOf t m.uid x) ∧ ms.Pairwise (fun x y => x.uid < y.uid) ∧ ms.length ≤ n := by
  obtain ⟨⟨sq, K, V, U, N, FL, US, NM, TX⟩, nx, ad, fl⟩ := t
  simp only at hdom hu hnm ⊢
  have h0 := belNew w (.cells #[.int .i64 0, .string ⟨#[]⟩, .string ⟨#[]⟩, .int .i64 0, .slice none 0 0] 55)
  have B0 := Box.new w #[.int .i64 0, .string ⟨#[]⟩, .string ⟨#[]⟩, .int .i64 0, .slice none 0 0] 55
  have T0 := h.later h0
  have e0 : (w.alloc (.cells #[.int .i64 0, .string ⟨#[]⟩, .string ⟨#[]⟩, .int .i64 0, .slice none 0 0] 55)).heap.size = w.heap.size + 1 := by simp
  have la := h.box.lt
  obtain ⟨p0, p1, p2, p3, p4, p5, p6, p7, p8, p9, p10, p11⟩ := T0.box.twelve
  go_enter Try.func24, Try.ntmps24
  go_upto_region 1 with fail
  generalize w.alloc (.cells #[.int .i64 0, .string ⟨#[]⟩, .string ⟨#[]⟩, .int .i64 0, .slice none 0 0] 55) = w0 at h0 B0 T0 e0 p0 p1 p2 p3 p4 p5 p6 p7 p8 p9 p10 p11 ⊢
  have HE0 := Lib.hid e0
  clear e0
  have k1 := belNew w0 (.cells #[.int .i64 K, .int .i64 V, .int .i64 U, .int .i64 N, .int .i64 FL, .string US, .string NM, .string TX] 47)
  have X1 := Box.new w0 #[.int .i64 K, .int .i64 V, .int .i64 U, .int .i64 N, .int .i64 FL, .string US, .string NM, .string TX] 47
  have B1 := B0.later k1
  have T1 := T0.later k1
  have h1 := h0.trans (k1.mono h0.size)
  go_upto_region 2 with fail
  clear p0 p1 p2 p3 p4 p5 p6 p7 p8 p9 p10 p11
  generalize w0.alloc (.cells #[.int .i64 K, .int .i64 V, .int .i64 U, .int .i64 N, .int .i64 FL, .string US, .string NM, .string TX] 47) = w1 at k1 X1 B1 T1 h1 ⊢
  obtain ⟨gr, hgr⟩ : ∃ gr, w0.heap.size = gr := ⟨_, rfl⟩
  have hgr2 : gr = w.heap.size + 1 := by have := HE0.out; omega
  rw [hgr] at X1 ⊢
  obtain ⟨g, hg⟩ : ∃ g, w.heap.size = g := ⟨_, rfl⟩
  rw [hg] at B1
  have hg1 : g ≠ gr := by omega
  have hg2 : a + 2 < g := by omega
  have r1 : ∀ X, Kept g (g + 1) w1 X → X.cell? ⟨gr, 1, none⟩ = some (.int .i64 V) := fun X hX => by
    have hB : Box X gr #[.int .i64 K, .int .i64 V, .int .i64 U, .int .i64 N, .int .i64 FL, .string US, .string NM, .string TX] 47 := (hX.block gr X1.lt (by omega)).trans X1
    exact hB.cell 1 _ rfl
  have r5 : ∀ X, Kept g (g + 1) w1 X → X.cell? ⟨gr, 5, none⟩ = some (.string US) := fun X hX => by
    have hB : Box X gr #[.int .i64 K, .int .i64 V, .int .i64 U, .int .i64 N, .int .i64 FL, .string US, .string NM, .string TX] 47 := (hX.block gr X1.lt (by omega)).trans X1
    exact hB.cell 5 _ rfl
  have r6 : ∀ X, Kept g (g + 1) w1 X → X.cell? ⟨gr, 6, none⟩ = some (.string NM) := fun X hX => by
    have hB : Box X gr #[.int .i64 K, .int .i64 V, .int .i64 U, .int .i64 N, .int .i64 FL, .string US, .string NM, .string TX] 47 := (hX.block gr X1.lt (by omega)).trans X1
    exact hB.cell 6 _ rfl
  have HTX : Hid (∀ X, Kept g (g + 1) w1 X → TbAt X a n ⟨(sq, ⟨K, V, U, N, FL, US, NM, TX⟩), nx, ad, fl⟩) := fun X hX => T1.same (hX.block a T1.adds.lt (by omega)) (hX.block (a + 1) T1.flags.lt (by omega)) (hX.block (a + 2) T1.box.lt (by omega))
  have rn : ∀ X, Kept g (g + 1) w1 X → X.cell? ⟨a + 2, 9, none⟩ = some (.int .i64 nx) := fun X hX => (HTX.out X hX).box.cell 9 _ rfl
  have HML : Hid (∀ X, Kept g (g + 1) w1 X → _) := fun X hX => mails_any ⟨(sq, ⟨K, V, U, N, FL, US, NM, TX⟩), nx, ad, fl⟩ a n X (HTX.out X hX) hn hdom
  have HCU := Lib.hid (fun wx => clone_any US wx (by omega))
  have HCN := Lib.hid (fun wx => clone_any NM wx (by omega))
  have HBX : Hid (∀ X, Below w1.heap.size w1 X → Box X g #[.int .i64 0, .string ⟨#[]⟩, .string ⟨#[]⟩, .int .i64 0, .slice none 0 0] 55) := fun X hX => B1.later hX
  have HH1 := Lib.hid h1
  have HG := Lib.hid hg
  have HGS : Hid (g < w1.heap.size) := B1.lt
  have hbelow : Below w1.heap.size w1 w1.drew := (Below.refl _ _).drew
  rw [hg]
  clear X1 B1 T1 T0 B0 h0 h1 k1 hgr hgr2 hg hg1 hg2 la h hdom
  refine wp_region_held_drew (S := fun x => Kept g (g + 1) w1 x) (by kernel_rfl) ((Kept.of_below (Below.refl _ _) _ _).drew) (fun hHeld => ?_)
  refine takeL (i := 0) (v := .pointer (some ⟨gr, 1, none⟩)) rfl (by kernel_rfl) (by kernel_rfl) (by kernel_rfl) (fun _ _ _ h => h) (Or.inl ⟨by rfl, ?_⟩) (by assumption) ?_
  · intro x hSx; go_simp
  try simp only [Act.put, List.setIfInBounds_toArray, List.set_cons_zero, List.set_cons_succ]
  refine takeL (i := 1) (v := .int .i64 V) rfl (by kernel_rfl) (by kernel_rfl) (by kernel_rfl) (fun _ _ _ h => h) (Or.inl ⟨by rfl, ?_⟩) (by assumption) ?_
  · intro x hSx; have q0 := r1 x hSx; go_simp
  try simp only [Act.put, List.setIfInBounds_toArray, List.set_cons_zero, List.set_cons_succ]
  refine takeL (i := 2) (v := .pointer (some ⟨gr, 5, none⟩)) rfl (by kernel_rfl) (by kernel_rfl) (by kernel_rfl) (fun _ _ _ h => h) (Or.inl ⟨by rfl, ?_⟩) (by assumption) ?_
  · intro x hSx; go_simp
  try simp only [Act.put, List.setIfInBounds_toArray, List.set_cons_zero, List.set_cons_succ]
  refine takeL (i := 3) (v := .string US) rfl (by kernel_rfl) (by kernel_rfl) (by kernel_rfl) (fun _ _ _ h => h) (Or.inl ⟨by rfl, ?_⟩) (by assumption) ?_
  · intro x hSx; have q0 := r5 x hSx; go_simp
  try simp only [Act.put, List.setIfInBounds_toArray, List.set_cons_zero, List.set_cons_succ]
  refine takeL (i := 5) (v := .pointer (some ⟨gr, 6, none⟩)) rfl (by kernel_rfl) (by kernel_rfl) (by kernel_rfl) (fun _ _ _ h => h) (Or.inl ⟨by rfl, ?_⟩) (by assumption) ?_
  · intro x hSx; go_simp
  try simp only [Act.put, List.setIfInBounds_toArray, List.set_cons_zero, List.set_cons_succ]
  refine takeL (i := 6) (v := .string NM) rfl (by kernel_rfl) (by kernel_rfl) (by kernel_rfl) (fun _ _ _ h => h) (Or.inl ⟨by rfl, ?_⟩) (by assumption) ?_
  · intro x hSx; have q0 := r6 x hSx; go_simp
  try simp only [Act.put, List.setIfInBounds_toArray, List.set_cons_zero, List.set_cons_succ]
  refine takeL (i := 8) (v := .pointer (some ⟨a + 2, 0, none⟩)) rfl (by kernel_rfl) (by kernel_rfl) (by kernel_rfl) (fun _ _ _ h => h) (Or.inl ⟨by rfl, ?_⟩) (by assumption) ?_
  · intro x hSx; go_simp
  try simp only [Act.put, List.setIfInBounds_toArray, List.set_cons_zero, List.set_cons_succ]
  refine takeL (i := 9) (v := .pointer (some ⟨a + 2, 0, none⟩)) rfl (by kernel_rfl) (by kernel_rfl) (by kernel_rfl) (fun _ _ _ h => h) (Or.inl ⟨by rfl, ?_⟩) (by assumption) ?_
  · intro x hSx; go_simp
  try simp only [Act.put, List.setIfInBounds_toArray, List.set_cons_zero, List.set_cons_succ]
  refine takeL (i := 10) (v := .pointer (some ⟨a + 2, 9, none⟩)) rfl (by kernel_rfl) (by kernel_rfl) (by kernel_rfl) (fun _ _ _ h => h) (Or.inl ⟨by rfl, ?_⟩) (by assumption) ?_
  · intro x hSx; go_simp
  try simp only [Act.put, List.setIfInBounds_toArray, List.set_cons_zero, List.set_cons_succ]
  refine takeL (i := 11) (v := .int .i64 nx) rfl (by kernel_rfl) (by kernel_rfl) (by kernel_rfl) (fun _ _ _ h => h) (Or.inl ⟨by rfl, ?_⟩) (by assumption) ?_
  · intro x hSx; have q0 := rn x hSx; go_simp
  try simp only [Act.put, List.setIfInBounds_toArray, List.set_cons_zero, List.set_cons_succ]
  refine takeL (i := 12) (v := .pointer (some ⟨a + 2, 0, none⟩)) rfl (by kernel_rfl) (by kernel_rfl) (by kernel_rfl) (fun _ _ _ h => h) (Or.inl ⟨by rfl, ?_⟩) (by assumption) ?_
  · intro x hSx; go_simp
  try simp only [Act.put, List.setIfInBounds_toArray, List.set_cons_zero, List.set_cons_succ]
  refine wpAnyH_ready (rs := [4]) (by kernel_rfl) (by simp) ?_
  refine readyOne rfl (fun K' hK => ?_)
  go_simp
  refine (HCU.out _).mono ?_
  rintro e wT4 ⟨rfl, k4⟩
  go_wp2_with fail
  refine hK.out _ _ (hHeld.trans (Kept.of_below k4 _ _)) (fun hS2 => ?_)
  clear hK K' hHeld
  have hHeld := hS2
  clear hS2
  try simp only [Act.put, List.setIfInBounds_toArray, List.set_cons_zero, List.set_cons_succ]
  refine wpAnyH_ready (rs := [7]) (by kernel_rfl) (by simp) ?_
  refine readyOne rfl (fun K' hK => ?_)
  go_simp
  refine (HCN.out _).mono ?_
  rintro e wT7 ⟨rfl, k7⟩
  go_wp2_with fail
  refine hK.out _ _ (hHeld.trans (Kept.of_below k7 _ _)) (fun hS2 => ?_)
  clear hK K' hHeld
  have hHeld := hS2
  clear hS2
  try simp only [Act.put, List.setIfInBounds_toArray, List.set_cons_zero, List.set_cons_succ]
  refine wpAnyH_ready (rs := [13]) (by kernel_rfl) (by simp) ?_
  refine readyOne rfl (fun K' hK => ?_)
  go_simp
  refine (HML.out _ hHeld).mono ?_
  rintro e wT13 ⟨mv, ms, rfl, RM, hm1, hm2, hm3⟩
  go_wp2_with fail
  refine hK.out _ _ (hHeld.trans (Kept.of_below RM.bel _ _)) (fun hS2 => ?_)
  clear hK K' hHeld
  have hHeld := hS2
  clear hS2
  try simp only [Act.put, List.setIfInBounds_toArray, List.set_cons_zero, List.set_cons_succ]
  obtain ⟨pm, cm, rfl⟩ := RM.form
  refine takeL (i := 14) (v := .agg #[.int .i64 V, .string US, .string NM, .int .i64 nx, .slice pm ms.length cm]) rfl (by kernel_rfl) (by kernel_rfl) (by kernel_rfl) (fun _ _ _ h => h) (Or.inl ⟨by rfl, ?_⟩) (by assumption) ?_
  · intro x hSx; go_simp
  try simp only [Act.put, List.setIfInBounds_toArray, List.set_cons_zero, List.set_cons_succ]
  have kT : Below w1.heap.size w1 wT13 := (hbelow.trans (k4.trans (k7.mono k4.size))).trans (RM.bel.mono (Nat.le_trans (Nat.le_trans hbelow.size k4.size) k7.size))
  have BT := HBX.out _ kT
  have HS5 : Hid (Kept g (g + 1) w1 (set5 wT13 g (.int .i64 V) (.string US) (.string NM) (.int .i64 nx) (.slice pm ms.length cm))) := ((((hHeld.store g 0 _ (by omega) (by omega)).store g 1 _ (by omega) (by omega)).store g 2 _ (by omega) (by omega)).store g 3 _ (by omega) (by omega)).store g 4 _ (by omega) (by omega)
  have HGT : Hid (g < wT7.heap.size) := Nat.lt_of_lt_of_le HGS.out (Nat.le_trans hbelow.size (Nat.le_trans k4.size k7.size))
  have L5 : Box (set5 wT13 g (.int .i64 V) (.string US) (.string NM) (.int .i64 nx) (.slice pm ms.length cm)) g #[.int .i64 V, .string US, .string NM, .int .i64 nx, .slice pm ms.length cm] 55 := ((((BT.set 0 _).set 1 _).set 2 _).set 3 _).set 4 _
  have HR5 : Hid (RBuf mlE wT7.heap.size (set5 wT13 g (.int .i64 V) (.string US) (.string NM) (.int .i64 nx) (.slice pm ms.length cm)) (set5 wT13 g (.int .i64 V) (.string US) (.string NM) (.int .i64 nx) (.slice pm ms.length cm)) (.slice pm ms.length cm) ms) := ((((RM.here.aside g 0 _ HGT.out).aside g 1 _ HGT.out).aside g 2 _ HGT.out).aside g 3 _ HGT.out).aside g 4 _ HGT.out
  have HB5 : Hid (Below g w (set5 wT13 g (.int .i64 V) (.string US) (.string NM) (.int .i64 nx) (.slice pm ms.length cm))) := by
    have h0 : Below w.heap.size w wT13 := HH1.out.trans (kT.mono HH1.out.size)
    rw [HG.out] at h0
    exact ((((h0.setCell (p := ⟨g, 0, none⟩) (Nat.le_refl _) _).setCell (p := ⟨g, 1, none⟩) (Nat.le_refl _) _).setCell (p := ⟨g, 2, none⟩) (Nat.le_refl _) _).setCell (p := ⟨g, 3, none⟩) (Nat.le_refl _) _).setCell (p := ⟨g, 4, none⟩) (Nat.le_refl _) _
  have hgT : g ≤ wT7.heap.size := Nat.le_of_lt HGT.out
  unfold set5 at HS5 L5 HR5 HB5
  obtain ⟨z0, z1, z2, z3, z4⟩ := L5.five
  obtain ⟨u0, u1, u2, u3, u4⟩ := BT.five
  have f0 := BT.loose 0
  have f1 := BT.loose 1
  have f2 := BT.loose 2
  have f3 := BT.loose 3
  have f4 := BT.loose 4
  have HM1 := Lib.hid hm1
  have HM2 := Lib.hid hm2
  clear L5 BT kT RM k4 k7 hbelow hm1 hm2
  refine wpAnyH_ready (rs := [15]) (by kernel_rfl) (by simp) ?_
  refine readyOne rfl (fun K' hK => ?_)
  go_simp
  refine hK.out _ _ HS5.out (fun hS2 => ?_)
  clear hK K' hHeld hS2
  try simp only [Act.put, List.setIfInBounds_toArray, List.set_cons_zero, List.set_cons_succ]
  refine wpAnyH_done (by kernel_rfl) ?_ _
  go_wp2
  refine bodyPost_ret (v := .agg #[.int .i64 V, .string US, .string NM, .int .i64 nx, .slice pm ms.length cm]) (by simp [results, Try.results24, go_sem, z0, z1, z2, z3, z4]) rfl ⟨pm, cm, ms, rfl, ?_, ?_, HM1.out, HM2.out, hm3⟩
  · rw [HG.out]; exact HR5.out.lower hgT
  · rw [HG.out]; exact HB5.out

end Go.Proofs.Ytgdkndlkapmhjaa

/- What StateOf hands back. -/
namespace Go.Proofs.Ytgdkndlkapmhjaa
open Go.RowKit

/-- What StateOf hands back: boxes in memory of their own. -/
def StateC (f : Nat) (l : List Itm) : Prop := ∀ (v : Value) (X : World), Rows' itE X v l → Calls Try.prog f #[v] X fun e w' => ∃ bv hs, e = .returned (.agg #[bv]) ∧ StO X.heap.size w' bv (stateL l) hs ∧ Below X.heap.size X w'

end Go.Proofs.Ytgdkndlkapmhjaa

/- What records tell: the boxes in order; the program's StateOf. -/
namespace Go.Proofs.Ytgdkndlkapmhjaa
open Go.RowKit

/-- A row that is mixed was mixed out of what it was made of. -/
theorem perm_lift {α β : Type} (f : α → β) {m n : List β} (h : m.Perm n) : ∀ l : List α, l.map f = n → ∃ l' : List α, l'.Perm l ∧ l'.map f = m := by
  induction h with
  | nil => intro l hl; exact ⟨[], by have := List.map_eq_nil_iff.1 hl; rw [this], rfl⟩
  | cons x _ ih =>
    intro l hl
    cases l with
    | nil => cases hl
    | cons a l =>
      simp only [List.map_cons, List.cons.injEq] at hl
      obtain ⟨l', h1, h2⟩ := ih l hl.2
      exact ⟨a :: l', h1.cons a, by simp [h2, hl.1]⟩
  | swap x y _ =>
    intro l hl
    match l, hl with
    | a :: b :: l, hl =>
      simp only [List.map_cons, List.cons.injEq] at hl
      exact ⟨b :: a :: l, List.Perm.swap _ _ _, by simp [hl.1, hl.2.1, hl.2.2]⟩
  | trans _ _ ih1 ih2 =>
    intro l hl
    obtain ⟨l1, h1, h2⟩ := ih2 l hl
    obtain ⟨l2, h3, h4⟩ := ih1 l1 h2
    exact ⟨l2, h3.trans h1, h4⟩

/-- Boxes mixed in their row. -/
theorem StO.mixed {B : Nat} {w w' : World} {g n cap : Nat} {bs : List Bx} {hs hs' : List BxH} (h : StO B w (.slice (some ⟨g, 0, none⟩) n cap) bs hs) (hp : hs'.Perm hs) (hr : RBuf hdE B w' w' (.slice (some ⟨g, 0, none⟩) n cap) hs') (hg : w.grownBy w' (some g)) :
    ∃ bs', bs'.Perm bs ∧ StO B w' (.slice (some ⟨g, 0, none⟩) n cap) bs' hs' := by
  have hz : (hs.zip bs).map Prod.fst = hs := by rw [List.map_fst_zip]; rw [h.len]; exact Nat.le_refl _
  obtain ⟨ps, hps, hfst⟩ := perm_lift Prod.fst hp (hs.zip bs) hz
  have hsnd : (ps.map Prod.snd).Perm bs := by
    have := hps.map Prod.snd
    rwa [List.map_snd_zip (by rw [h.len]; exact Nat.le_refl _)] at this
  have hmem : ∀ {x : BxH} {b : Bx}, (x, b) ∈ ps → ∃ j, hs[j]? = some x ∧ bs[j]? = some b := fun {x b} hm => by
    have := hps.mem_iff.1 hm
    obtain ⟨j, hj, e⟩ := List.getElem_of_mem this
    rw [List.getElem_zip] at e
    have hj' : j < hs.length ∧ j < bs.length := by rw [List.length_zip] at hj; omega
    cases e
    exact ⟨j, List.getElem?_eq_getElem hj'.1, List.getElem?_eq_getElem hj'.2⟩
  have hat : ∀ {j : Nat} {x : BxH} {b : Bx}, hs'[j]? = some x → (ps.map Prod.snd)[j]? = some b → (x, b) ∈ ps := fun {j x b} h1 h2 => by
    rw [← hfst, List.getElem?_map] at h1
    rw [List.getElem?_map] at h2
    cases e : ps[j]? with
    | none => rw [e] at h1; cases h1
    | some p =>
      rw [e] at h1 h2
      simp at h1 h2
      obtain ⟨p1, p2⟩ := p
      simp at h1 h2
      subst h1 h2
      exact List.mem_of_getElem? e
  have hpw : hs.Pairwise (fun x y => ∀ k, x.mv.ownBlock = some k → y.mv.ownBlock ≠ some k) := by
    rw [List.pairwise_iff_getElem]
    intro i j hi hj hij k hk
    exact h.apart i j _ _ (List.getElem?_eq_getElem hi) (List.getElem?_eq_getElem hj) (by omega) k hk
  have hpw' : hs'.Pairwise (fun x y => ∀ k, x.mv.ownBlock = some k → y.mv.ownBlock ≠ some k) := (hp.pairwise_iff (fun {x y} hxy k hk hk' => hxy k hk' hk)).2 hpw
  refine ⟨ps.map Prod.snd, hsnd, hr, by rw [← hfst]; simp, fun j x b h1 h2 => ?_, fun j x h1 k hk => ?_, fun i j x y h1 h2 hij k hk => ?_⟩
  · obtain ⟨i, e1, e2⟩ := hmem (hat h1 h2)
    refine ⟨(h.at' i x b e1 e2).1, (h.at' i x b e1 e2).2.shift hg ?_⟩
    cases hv : x.mv.ownBlock with
    | none => exact .inl rfl
    | some k => exact .inr (fun e => h.far i x e1 k hv (by rw [← Option.some.inj e]; rfl))
  · obtain ⟨i, hi, e⟩ := List.getElem_of_mem (hp.mem_iff.1 (List.mem_of_getElem? h1))
    exact h.far i x (by rw [List.getElem?_eq_getElem hi, e]) k hk
  · obtain ⟨hi, rfl⟩ := List.getElem?_eq_some_iff.1 h1
    obtain ⟨hj, rfl⟩ := List.getElem?_eq_some_iff.1 h2
    rw [List.pairwise_iff_getElem] at hpw'
    rcases Nat.lt_or_gt_of_ne hij with c | c
    · exact hpw' i j hi hj c k hk
    · exact fun e => hpw' j i hj hi c k e hk

set_option maxRecDepth 100000 in
set_option maxHeartbeats 1000000 in
theorem byValid_any (x y : BxH) (W : World) : Calls Try.prog 26 #[.agg #[.int .i64 x.valid, .string x.user, .string x.name, .int .i64 x.next, .slice x.a x.n x.c], .agg #[.int .i64 y.valid, .string y.user, .string y.name, .int .i64 y.next, .slice y.a y.n y.c]] W fun e w' => e = .returned (.int .i64 (Lib.compareInt x.valid y.valid)) ∧ ∃ q os', w' = Sort.grow (W.drewN q) os' := by
  generalize hr : Lib.compareInt x.valid y.valid = r
  have hcon := fun W' => compare_any x.valid y.valid W'
  rw [hr] at hcon
  clear hr
  go_enter Try.func26, Try.ntmps26
  go_wp2_with (go_at_call 48; refine (hcon _).mono ?_; rintro e w' ⟨rfl, rfl⟩)
  go_ret
  exact ⟨rfl, 0, _, by rw [Sort.alloc_eq_grow, Sort.alloc_eq_grow, Sort.grow_grow]; rfl⟩
theorem ltValid (x y : BxH) : ltOf (fun x y : BxH => Lib.compareInt x.valid y.valid) x y = decide (x.valid < y.valid) := by
  unfold ltOf Lib.compareInt
  by_cases h1 : x.valid < y.valid
  · simp [h1]
  · by_cases h2 : y.valid < x.valid <;> simp [h1, h2]
theorem swoValid : Sort.SWO (ltOf fun x y : BxH => Lib.compareInt x.valid y.valid) where
  irrefl x := by rw [ltValid]; simp
  trans x y z h1 h2 := by rw [ltValid] at *; simp at *; omega
  ntrans x y z h1 h2 := by rw [ltValid] at *; simp at *; omega

set_option maxRecDepth 100000 in
set_option maxHeartbeats 1000000 in
theorem sortBoxes_any (bs : List Bx) (hs : List BxH) (B g cap : Nat) (w : World) (h : StO B w (.slice (some ⟨g, 0, none⟩) hs.length cap) bs hs) (hl : hs.length ≤ 1000000) :
    Calls Try.prog 25 #[.slice (some ⟨g, 0, none⟩) hs.length cap, .func (.func 26) #[] #[]] w fun e w' => e = .returned (.tuple #[]) ∧ ∃ bs' hs', bs'.Perm bs ∧ bs'.Pairwise (fun x y => ¬ y.valid < x.valid) ∧ StO B w' (.slice (some ⟨g, 0, none⟩) hs.length cap) bs' hs' ∧ w.grownBy w' (some g) := by
  have eg : ∀ args w, (callFunc 26 args).run Try.prog w = .ok (.enter 26 args) w := enters_of Try.func26 (by kernel_rfl) rfl
  have hcmp : CmpLays Try.prog 26 #[] hdE.f 5 (fun x y : BxH => Lib.compareInt x.valid y.valid) g 0 hs.toArray.size w := fun _ _ _ _ x y => byValid_any x y _
  have hcon := AnyQ.slices_SortFunc Try.sortBox 5 Try.isAgg55 Try.sizeOf55 hdE.f (fun _ => rfl) hdE.one (fun x y : BxH => Lib.compareInt x.valid y.valid) swoValid 26 #[] g 0 cap hs.toArray w eg hcmp h.row.holdsK (h.row.own.lt g rfl).2 (by simp; omega)
  have hcon : Calls Try.prog 25 #[.slice (some ⟨g, 0, none⟩) hs.length cap, .func (.func 26) #[] #[]] w _ := hcon
  refine hcon.mono ?_
  rintro e w' ⟨rfl, d', n, os, hp, hs', rfl⟩
  have hp' := perm_of hp
  have hso := sorted_of hp.1 hs'
  have hlen : d'.toList.length = hs.length := hp'.length_eq
  have hg := sorted_grown hdE w g n d' os
  have hr : RBuf hdE B (sortWorldK hdE.f hdE.sz w g 0 n d' os) (sortWorldK hdE.f hdE.sz w g 0 n d' os) (.slice (some ⟨g, 0, none⟩) hs.length cap) d'.toList := by
    have := (h.row.sorted hlen n os).here
    rwa [Array.toArray_toList] at this
  obtain ⟨bs', hb1, hb2⟩ := h.mixed hp' hr hg
  refine ⟨rfl, bs', d'.toList, hb1, ?_, hb2, hg⟩
  rw [List.pairwise_iff_getElem]
  intro i j hi hj hij
  rw [List.pairwise_iff_getElem] at hso
  have hi' : i < d'.toList.length := by rw [hb2.len]; exact hi
  have hj' : j < d'.toList.length := by rw [hb2.len]; exact hj
  have := hso i j hi' hj' hij
  rw [ltValid] at this
  have e1 := (hb2.at' i _ _ (List.getElem?_eq_getElem hi') (List.getElem?_eq_getElem hi)).1.1
  have e2 := (hb2.at' j _ _ (List.getElem?_eq_getElem hj') (List.getElem?_eq_getElem hj)).1.1
  rw [← e1, ← e2]
  simpa using this

/-- The boxes that came so far. -/
def CollB (l : List Itm) (todo : Int → Bool) (bs : List Bx) : Prop := (∀ c, c ∈ bs ↔ ∃ v, v ∈ upOf (validK l) l ∧ todo v = false ∧ c = boxK l v) ∧ (bs.map (·.valid)).Nodup
theorem CollB.step {l : List Itm} {todo : Int → Bool} {bs : List Bx} (h : CollB l todo bs) {v : Int} (hv : todo v = true) (hm : v ∈ upOf (validK l) l) : CollB l (fun y => todo y && !decide (y = v)) (bs ++ [boxK l v]) := by
  have hn : ∀ c ∈ bs, c.valid ≠ v := fun c hc e => by
    obtain ⟨u, _, h2, h3⟩ := (h.1 c).1 hc
    have : u = v := by rw [h3] at e; exact e
    rw [this, hv] at h2
    cases h2
  refine ⟨fun c => ?_, ?_⟩
  · rw [List.mem_append, List.mem_singleton]
    constructor
    · rintro (hc | rfl)
      · obtain ⟨u, h1, h2, h3⟩ := (h.1 c).1 hc
        exact ⟨u, h1, by simp [h2], h3⟩
      · exact ⟨v, hm, by simp, rfl⟩
    · rintro ⟨u, h1, h2, h3⟩
      by_cases e : u = v
      · subst e; exact .inr h3
      · exact .inl ((h.1 c).2 ⟨u, h1, by simpa [e] using h2, h3⟩)
  · rw [List.map_append, List.nodup_append]
    refine ⟨h.2, by simp, fun a ha b hb => ?_⟩
    obtain ⟨c, hc, rfl⟩ := List.mem_map.1 ha
    simp at hb
    rw [hb]
    exact hn c hc
theorem CollB.skip {l : List Itm} {todo : Int → Bool} {bs : List Bx} (h : CollB l todo bs) {v : Int} (hm : v ∉ upOf (validK l) l) : CollB l (fun y => todo y && !decide (y = v)) bs := by
  refine ⟨fun c => ?_, h.2⟩
  rw [h.1 c]
  constructor
  · rintro ⟨u, h1, h2, h3⟩; exact ⟨u, h1, by simp [h2], h3⟩
  · rintro ⟨u, h1, h2, h3⟩
    by_cases e : u = v
    · subst e; exact absurd h1 hm
    · exact ⟨u, h1, by simpa [e] using h2, h3⟩

/-- What the loop over the boxes keeps. -/
structure BxG (w : World) (B b r n : Nat) (l : List Itm) (P : Int → Option Nat) (lv : Value) (bs : List Bx) (hs : List BxH) (todo : Int → Bool) (cnt : Nat) (X : World) : Prop where
  sto : StO B X lv bs hs
  some' : ∃ k, lv.ownBlock = some k
  go : MapGo iK ptrV X b r n (fun v => (P v).map (fun a => a + 2)) todo cnt
  told : ToldO b n X (finT l) P
  coll : CollB l todo bs
  len : bs.length + cnt ≤ n
  bel : Below w.heap.size w X
  hB : w.heap.size ≤ B
  hr : B ≤ r
  hb : b < B
  top : ∀ v a, P v = some a → a + 2 < B

theorem ToldO.under {b n B : Nat} {w w' : World} {T : Int → Option Tb} {P : Int → Option Nat} (h : ToldO b n w T P) (hb : Below B w w') (h1 : b < B) (h2 : ∀ v a, P v = some a → a + 2 < B) : ToldO b n w' T P :=
  ⟨h.map.same (hb.block b h1), h.dom, fun v a t e1 e2 => by have := h2 v a e1; exact (h.at' v a t e1 e2).same (hb.block a (by omega)) (hb.block (a + 1) (by omega)) (hb.block (a + 2) this), h.low, h.apart⟩
/-- .. while an entry is at hand. -/
structure BxN (w : World) (B b r n : Nat) (l : List Itm) (P : Int → Option Nat) (lv : Value) (bs : List Bx) (hs : List BxH) (todo : Int → Bool) (cnt : Nat) (X : World) : Prop where
  sto : StO B X lv bs hs
  go : MapGo iK ptrV X b r n (fun v => (P v).map (fun a => a + 2)) todo cnt
  told : ToldO b n X (finT l) P
  bel : Below w.heap.size w X
theorem BxN.later {w : World} {B b r n : Nat} {l : List Itm} {P : Int → Option Nat} {lv : Value} {bs : List Bx} {hs : List BxH} {todo : Int → Bool} {cnt : Nat} {X Y : World} (h : BxN w B b r n l P lv bs hs todo cnt X) (hb : Below X.heap.size X Y) : BxN w B b r n l P lv bs hs todo cnt Y :=
  ⟨h.sto.later hb, h.go.later hb, h.told.later hb, h.bel.trans (hb.mono h.bel.size)⟩
theorem BxN.of {w : World} {B b r n : Nat} {l : List Itm} {P : Int → Option Nat} {lv : Value} {bs : List Bx} {hs : List BxH} {todo todo' : Int → Bool} {cnt cnt' : Nat} {X Y : World} (h : BxG w B b r n l P lv bs hs todo cnt X) (hg : X.grownBy Y (some r)) (hgo : MapGo iK ptrV Y b r n (fun v => (P v).map (fun a => a + 2)) todo' cnt') : BxN w B b r n l P lv bs hs todo' cnt' Y := by
  have hB : Below B X Y := (Below.refl B X).grown hg h.sto.row.le (fun k hk => by have := Option.some.inj hk; have := h.hr; omega)
  refine ⟨h.sto.shift hg (fun k hk => ?_), hgo, h.told.under hB h.hb h.top, h.bel.grown hg h.bel.size (fun k hk => by have := Option.some.inj hk; have := h.hr; have := h.hB; omega)⟩
  have hk' : k = r := (Option.some.inj hk).symm
  subst hk'
  refine ⟨fun e => h.go.notRow h.sto.row e.symm, fun j x hj e => ?_⟩
  have hl : j < hs.length := (List.getElem?_eq_some_iff.1 hj).1
  have hb2 : bs[j]? = some (bs[j]'(by rw [← h.sto.len]; exact hl)) := List.getElem?_eq_getElem _
  exact h.go.notRow (h.sto.at' j x _ hj hb2).2 e.symm
theorem BxN.skip {w : World} {B b r n : Nat} {l : List Itm} {P : Int → Option Nat} {lv : Value} {bs : List Bx} {hs : List BxH} {todo : Int → Bool} {cnt cnt' : Nat} {X Y : World} {v : Int} (h : BxN w B b r n l P lv bs hs (fun y => todo y && !decide (y = v)) cnt' Y) (h0 : BxG w B b r n l P lv bs hs todo cnt X) (hv : v ∉ upOf (validK l) l) (hc : cnt' < cnt) : BxG w B b r n l P lv bs hs (fun y => todo y && !decide (y = v)) cnt' Y :=
  ⟨h.sto, h0.some', h.go, h.told, h0.coll.skip hv, by have := h0.len; omega, h.bel, h0.hB, h0.hr, h0.hb, h0.top⟩
theorem BxN.push {w : World} {B b r n : Nat} {l : List Itm} {P : Int → Option Nat} {lv lv' : Value} {bs : List Bx} {hs : List BxH} {todo : Int → Bool} {cnt cnt' : Nat} {X Y Z : World} {v : Int} (h : BxN w B b r n l P lv bs hs (fun y => todo y && !decide (y = v)) cnt' Y) (h0 : BxG w B b r n l P lv bs hs todo cnt X) (hv : v ∈ upOf (validK l) l) (ht : todo v = true) (hc : cnt' < cnt)
    (x : BxH) (hx : x.valid = (boxK l v).valid ∧ x.user = (boxK l v).user ∧ x.name = (boxK l v).name ∧ x.next = (boxK l v).next) (hm : RBuf mlE B Y Y x.mv (boxK l v).mails) (hf : ∀ k, x.mv.ownBlock = some k → ∀ j, (lv.ownBlock = some j ∨ ∃ (i : Nat) (y : BxH), hs[i]? = some y ∧ y.mv.ownBlock = some j) → j ≠ k)
    (hr : RBuf hdE B Z Z lv' (hs ++ [x])) (hg : Y.grownBy Z lv.ownBlock) (hat : lv'.ownBlock = lv.ownBlock ∨ lv'.ownBlock = some Y.heap.size) :
    BxG w B b r n l P lv' (bs ++ [boxK l v]) (hs ++ [x]) (fun y => todo y && !decide (y = v)) cnt' Z ∧ Below B Y Z := by
  have hB : Below B Y Z := (Below.refl B Y).grown hg h.sto.row.le (fun k hk => (h.sto.row.own.lt k hk).1)
  refine ⟨⟨h.sto.push (boxK l v) x hx hm (fun k hk e => hf k hk k (.inl e) rfl) (fun j y hj k hk e => hf k e k (.inr ⟨j, y, hj, hk⟩) rfl) hr hg hat, ?_, h.go.kept hg (h.told.map.notRow h.sto.row) (h.go.notRow h.sto.row), h.told.under hB h0.hb h0.top, h0.coll.step ht hv, by have := h0.len; simp; omega, h.bel.grown hg h.bel.size (fun k hk => Nat.le_trans h0.hB (h.sto.row.own.lt k hk).1), h0.hB, h0.hr, h0.hb, h0.top⟩, hB⟩
  rcases hat with e | e
  · rw [e]; exact h0.some'
  · exact ⟨_, e⟩

/-- What the texts of a box that is told are. -/
theorem fin_small {l : List Itm} (hok : ∀ x ∈ l, itOk x) {v : Int} {t : Tb} (h : finT l v = some t) : (∀ u x, t.adds u = some x → iK.ok u ∧ x.2.text.size ≤ 1000) ∧ t.named.2.user.size ≤ 1000 ∧ t.named.2.name.size ≤ 1000 := by
  obtain ⟨rfl, _⟩ := finT_some h
  refine ⟨fun u x hx => ?_, ?_⟩
  · rw [goneB_if] at hx
    split at hx
    · cases hx
    · have hx : bestR 3 v u l = some x := hx
      obtain ⟨q1, ⟨q2, q3, q4⟩, _⟩ := bestR_some hx
      have hu := ok_uid (hok x q1).2 (by omega)
      have ht := (hok x q1).2.2.2.2.2.2
      rw [if_pos q2] at ht
      exact ⟨wf_of (by omega) (by omega), by omega⟩
  · have hn : (lessA l v (fmT l v)).named = (tellO v l).getD (0, Rc.nil) := rfl
    rw [hn]
    cases e : tellO v l with
    | none => exact ⟨by show emp.size ≤ 1000; decide, by show emp.size ≤ 1000; decide⟩
    | some y =>
      obtain ⟨q1, q2, _⟩ := tellO_some e
      have hw := (hok y q1).2.2.2.1
      rw [if_pos q2] at hw
      have h1 := hw.1.1.2
      have h2 := hw.2.1.1.2
      exact ⟨by show y.2.user.size ≤ 1000; omega, by show y.2.name.size ≤ 1000; omega⟩

set_option maxRecDepth 100000 in
set_option maxHeartbeats 8000000 in
theorem implStateOf_any (l : List Itm) (hl : l.length ≤ 1048576) : StateC 8 l := by
  intro v w h
  have hI := Lib.hid (fun X hX => implItemsOk_any l v X (h.later (w' := X) hX) (by omega))
  have HL : Hid (∀ X, Below w.heap.size w X → Rows' itE X v l) := fun X hX => h.later hX
  obtain ⟨ad, cap, rfl, _⟩ := h.items
  clear h
  have k0 := belNew w (.cells #[.slice none 0 0] 28)
  have B0 := Box.new w #[.slice none 0 0] 28
  have hs0 : w.heap.size < (w.alloc (.cells #[.slice none 0 0] 28)).heap.size := by simp
  go_enter Try.func8, Try.ntmps8
  go_upto_region 1 with fail
  generalize w.alloc (.cells #[.slice none 0 0] 28) = w0 at k0 B0 hs0 ⊢
  obtain ⟨g, hg⟩ : ∃ g, w.heap.size = g := ⟨_, rfl⟩
  rw [hg] at B0 hs0
  have HG := Lib.hid hg
  rw [hg]
  clear hg
  go_wp2_with fail
  refine (hI.out _ k0).mono ?_
  rintro e w1 ⟨rfl, k1⟩
  have B1 := B0.later k1
  have j1 := k0.trans (k1.mono k0.size)
  have hs1 : g < w1.heap.size := B1.lt
  clear hI B0 k1 hs0
  by_cases hok : itemsOk l
  case neg =>
    rw [decide_eq_false hok]
    have HS : Hid (stateL l = []) := if_neg hok
    have u0 := B1.cell 0 _ rfl
    have f0 := B1.loose 0
    have z0 := (B1.set 0 (.slice none 0 0)).cell 0 _ rfl
    have jZ := Lib.hid (j1.setCell (p := ⟨g, 0, none⟩) (by rw [HG.out]; exact Nat.le_refl _) (.slice none 0 0))
    clear hok B1 j1
    go_wp2
    refine bodyPost_ret (v := .agg #[.slice none 0 0]) (by simp [results, Try.results8, go_sem, z0]) rfl ⟨.slice none 0 0, [], rfl, ?_, jZ.out⟩
    rw [HS.out]
    refine ⟨⟨World.ownsRow_nil _ _ _ _, Below.refl _ _, jZ.out.size⟩, rfl, fun j h b h1 => (by cases h1), fun j h h1 => (by cases h1), fun i j h h' h1 => (by cases h1)⟩
  rw [decide_eq_true hok]
  have HS : Hid (stateL l = tellAll l) := if_pos hok
  have HOK := Lib.hid (show ∀ x ∈ l, itOk x from hok.1)
  have hl2 : l.length ≤ 200 := hok.2.2
  clear hok hl
  go_wp2_with fail
  refine (toldBoxes_any l _ w1 (HL.out _ j1) HOK.out (by omega)).mono ?_
  rintro e w2 ⟨b, P0, rfl, hb2, T2, k2⟩
  have B2 := B1.later k2
  have j2 := j1.trans (k2.mono j1.size)
  clear B1
  go_wp2_with fail
  refine (deleteGone_any l (toldT l) P0 b l.length _ w2 T2 (fun X hX => HL.out X (j2.trans (hX.mono (Nat.le_trans j1.size hb2)))) HOK.out (by omega)).mono ?_
  rintro e w3 ⟨rfl, ⟨P, T3⟩, k3⟩
  have T3 : ToldO b l.length w3 (finT l) P := T3
  have B3 := B2.under k3 (by omega)
  have j3 : Below w.heap.size w w3 := j2.trans (k3.mono (Nat.le_trans j1.size hb2))
  have hb3 : w1.heap.size ≤ b := hb2
  clear T2 B2 k2 k3 j2 hb2
  obtain ⟨kl, hkl, hlen⟩ := T3.map.len (t := 42) Try.underlying42 3
  have HT3 := Lib.hid T3
  have HB3 := Lib.hid B3
  have HJ3 := Lib.hid j3
  have HJ1 := Lib.hid j1
  clear T3 B3 j3 j1
  go_wp2_with (first | (at_make; refine wpList_make_cap rfl _ _ hdE rfl .i64 .i64 _ kl rfl rfl rfl (by show 73 * kl ≤ _; omega) ?_; intro w4 hr4 hg4) | (at_range; refine wpList_range_is rfl _ _ rfl iK ptrV _ Try.underlying42 b l.length (fun v => (P v).map (fun a => a + 2)) rfl (HT3.out.map.kept hg4 (by simp)) ?_; intro w5 cnt0 hc0 hgo0 hg5 hs5))
  go_frame
  have hlow : b < w3.heap.size := HT3.out.map.lt
  have b34 : Below w3.heap.size w3 w5 := ⟨hg5.os.trans hg4.os, hg5.tape.trans hg4.tape, hg5.output.trans hg4.output, Nat.le_trans hg4.size hg5.size, fun k hk => (hg5.block k (Nat.lt_of_lt_of_le hk hg4.size) (by simp)).trans (hg4.block k hk (by simp))⟩
  have I0 : BxG w w3.heap.size b w4.heap.size l.length l P (.slice (some ⟨w3.heap.size, 0, none⟩) 0 kl) [] [] (fun v => ((P v).map (fun a => a + 2)).isSome) cnt0 w5 := by
    refine ⟨⟨(hr4.grown hg5 (.inr (by simp [Value.ownBlock])) (fun k hk => by cases hk)).here, rfl, fun j h b h1 => (by cases h1), fun j h h1 => (by cases h1), fun i j h h' h1 => (by cases h1)⟩, ⟨_, rfl⟩, hgo0, HT3.out.later b34, ⟨fun c => ⟨fun h => (by cases h), ?_⟩, by simp⟩, by simpa using hc0, HJ3.out.trans (b34.mono HJ3.out.size), HJ3.out.size, hr4.le, hlow, fun v a ha => ?_⟩
    · rintro ⟨v, h1, h2, _⟩
      obtain ⟨t, ht, _⟩ := (fin_valid HOK.out v).2 h1
      have hd := HT3.out.dom v
      rw [ht] at hd
      dsimp only at h2
      cases hp : P v with
      | none => rw [hp] at hd; cases hd
      | some a => rw [hp] at h2; cases h2
    · obtain ⟨t, ht⟩ := HT3.out.get ha
      exact (HT3.out.at' v a t ha ht).box.lt
  have BX5 : Hid (∀ X, Below w3.heap.size w5 X → Box X g #[.slice none 0 0] 28) := fun X hX => (HB3.out.later b34).under hX HB3.out.lt
  have HGB : Hid (g < w3.heap.size) := HB3.out.lt
  generalize w4.heap.size = r at I0 ⊢
  generalize w3.heap.size = B at I0 BX5 HGB ⊢
  have HBB : Hid (w.heap.size ≤ B) := I0.hB
  clear hr4 hg4 hgo0 hg5 hs5 hc0 hlen b34 HT3 HB3 HJ3 HJ1 hlow
  go_loopw [4] (fun lv wr => ∃ (bs : List Bx) (hs : List BxH) (todo : Int → Bool) (cnt : Nat), BxG w B b r l.length l P lv bs hs todo cnt wr ∧ Below B w5 wr) (fun _ wr => wr.rangeLeft b r)
  case atStart => exact ⟨_, _, _, _, I0, Below.refl _ _⟩
  case round =>
    clear I0
    obtain ⟨bs, hs, todo, cnt, I, hbr⟩ := hrel
    obtain ⟨pl, cl, rfl⟩ := I.sto.row.form
    have HI := Lib.hid I
    clear I
    go_wp2_with (at_next; refine wpList_next_is rfl _ rfl iK ptrV ptrV_inj b r l.length (fun v => (P v).map (fun a => a + 2)) todo cnt rfl HI.out.go ?_ ?_)
    · intro hdone
      have HDN := Lib.hid hdone
      clear hdone
      obtain ⟨gk, hgk⟩ : ∃ gk : Nat, pl = some ⟨gk, 0, none⟩ := by
        obtain ⟨kk, hkk⟩ := HI.out.some'
        rcases HI.out.sto.row.own.2 with ⟨e, _⟩ | ⟨g, cap, cur, e, _⟩
        · rw [e] at hkk; cases hkk
        · simp only [Value.slice.injEq] at e; exact ⟨g, e.1⟩
      subst hgk
      have HSO := Lib.hid (sortBoxes_any bs hs B gk cl _ HI.out.sto (by have := HI.out.len; have := HI.out.sto.len; omega))
      have HGK : Hid (B ≤ gk) := (HI.out.sto.row.own.lt gk rfl).1
      go_wp2_with fail
      refine HSO.out.mono ?_
      rintro e w6 ⟨rfl, bs6, hs6, hp6, hs6', S6, g6⟩
      have b6 : Below B w5 w6 := hbr.grown g6 HI.out.sto.row.le (fun k hk => by have := Option.some.inj hk; have := HGK.out; omega)
      have B6 := BX5.out _ b6
      have j6 : Below w.heap.size w w6 := HI.out.bel.grown g6 HI.out.bel.size (fun k hk => by have := Option.some.inj hk; have := HGK.out; have := HBB.out; omega)
      have HEQ : Hid (bs6 = tellAll l) := by
        refine rise_same (fun c => c.valid) ?_ (boxes_up l) (fun c => ?_)
        · have hnd : (bs6.map (·.valid)).Nodup := (hp6.map (·.valid)).nodup_iff.2 HI.out.coll.2
          have hnd' : bs6.Pairwise (fun x y => x.valid ≠ y.valid) := List.pairwise_map.1 hnd
          exact (hs6'.and hnd').imp (fun {x y} h => by have := h.1; have := h.2; omega)
        · rw [hp6.mem_iff, HI.out.coll.1 c]
          unfold tellAll
          rw [List.mem_map]
          constructor
          · rintro ⟨v, h1, _, h3⟩; exact ⟨v, h1, h3.symm⟩
          · rintro ⟨v, h1, h3⟩
            refine ⟨v, h1, HDN.out v ?_, h3.symm⟩
            obtain ⟨⟨x, hx, _, hv⟩, _⟩ := mem_valids.1 h1
            have := (HOK.out x hx).2.2.1
            exact wf_of (by omega) (by omega)
      have HSX := Lib.hid (S6.other HGB.out 0 (.slice (some ⟨gk, 0, none⟩) hs.length cl))
      have u0 := B6.cell 0 _ rfl
      have f0 := B6.loose 0
      have z0 := (B6.set 0 (.slice (some ⟨gk, 0, none⟩) hs.length cl)).cell 0 _ rfl
      have HJ6 := Lib.hid (j6.setCell (p := ⟨g, 0, none⟩) (by rw [HG.out]; exact Nat.le_refl _) (.slice (some ⟨gk, 0, none⟩) hs.length cl))
      clear S6 B6 b6 j6 g6 hp6 hs6' HSO
      go_wp2
      refine bodyPost_ret (v := .agg #[.slice (some ⟨gk, 0, none⟩) hs.length cl]) (by simp [results, Try.results8, go_sem, z0]) rfl ⟨_, hs6, rfl, ?_, HJ6.out⟩
      rw [HS.out, ← HEQ.out]
      exact HSX.out.lower HBB.out
    · intro vd c wN cntN hku htodo a ha hc hgoN hcntN hgN hsN hen
      subst hc
      replace hen : (Instr.entry (.pointer (some ⟨r, 0, none⟩))).run Try.prog wN = .ok (.tuple #[.int .i64 vd, .pointer (some ⟨a + 2, 0, none⟩)]) wN := hen
      rw [show iK.val vd = .int .i64 vd from rfl, show ptrV (a + 2) = .pointer (some ⟨a + 2, 0, none⟩) from rfl]
      obtain ⟨t, ht⟩ := HI.out.told.get ha
      have GN : BxN w B b r l.length l P (.slice pl hs.length cl) bs hs (fun y => todo y && !decide (y = vd)) cntN wN := BxN.of HI.out hgN hgoN
      have hbN : Below B w5 wN := hbr.grown hgN HI.out.sto.row.le (fun k hk => by have := Option.some.inj hk; have := HI.out.hr; omega)
      have TN := GN.told.at' vd a t ha ht
      obtain ⟨p0, _⟩ := TN.box.twelve
      have HTD := Lib.hid htodo
      have HA := Lib.hid ha
      have HTT := Lib.hid ht
      have HCN := Lib.hid hcntN
      have HGN := Lib.hid GN
      have HTN := Lib.hid TN
      have HBN := Lib.hid hbN
      clear hku htodo ha ht hcntN hgoN hgN hsN GN TN hbN hbr
      by_cases hnm : 0 < t.named.1
      · have HVM : Hid (vd ∈ upOf (validK l) l) := (fin_valid HOK.out vd).1 ⟨t, HTT.out, hnm⟩
        have hsm := fin_small HOK.out HTT.out
        have HBO := Lib.hid (box_any t a l.length wN HTN.out (by omega) hsm.1 hsm.2.1 hsm.2.2)
        clear hsm
        have hhl : hs.length ≤ 1000 := by have := HI.out.len; have := HI.out.sto.len; omega
        go_wp2_with (first
          | (go_at_call 24; refine HBO.out.mono ?_; rintro e w7 ⟨pm, cm, ms, rfl, RM, k7, hm1, hm2, hm3⟩; have HLT := RBuf.lit1 hdE w7 ⟨t.named.2.valid, t.named.2.user, t.named.2.name, t.next, pm, ms.length, cm⟩; have HRW := ((HGN.out.later k7).later (belNew w7 (.cells (hdE.f ⟨t.named.2.valid, t.named.2.user, t.named.2.name, t.next, pm, ms.length, cm⟩).toArray hdE.ty))); have HMB := Lib.hid (box_fin HOK.out HTT.out hnm hm1 hm2); have HLT' := Lib.hid HLT; have HRW' := Lib.hid HRW; have HRM := Lib.hid RM; clear HLT HRW RM hm1 hm2)
          | (at_builtin; refine wpList_append_rows rfl _ _ hdE rfl B _ hs rfl HRW'.out.sto.row w7.heap.size _ [⟨t.named.2.valid, t.named.2.user, t.named.2.name, t.next, pm, ms.length, cm⟩] rfl HLT'.out (by show _ * 73 ≤ _; simp only [List.length_cons, List.length_nil]; omega) ?_; intro v8 w8 r8 g8 at8))
        have hk8 := belNew w7 (.cells (hdE.f ⟨t.named.2.valid, t.named.2.user, t.named.2.name, t.next, pm, ms.length, cm⟩).toArray hdE.ty)
        have hBN : B ≤ wN.heap.size := HGN.out.sto.row.le
        have hmm := (HRM.out.here' hk8).lower hBN
        have HMM : ms = (boxK l vd).mails := by rw [← HMB.out]
        have HFIN := HRW'.out.push HI.out HVM.out HTD.out HCN.out ⟨t.named.2.valid, t.named.2.user, t.named.2.name, t.next, pm, ms.length, cm⟩ (by rw [← HMB.out]; exact ⟨rfl, rfl, rfl, rfl⟩) (by rw [← HMM]; exact hmm) (fun k hk j hj e => by
          have h1 := (HRM.out.own.lt k hk).1
          have h2 : j < wN.heap.size := by
            rcases hj with hj | ⟨i, y, hi, hj⟩
            · exact (HGN.out.sto.where'.1 j hj).2
            · exact (HGN.out.sto.where'.2 i y hi j hj).2
          omega) r8 g8 at8
        go_roundw
        case rel => exact ⟨_, _, _, _, HFIN.1, HBN.out.trans ((k7.trans (hk8.mono k7.size)).mono hBN |>.trans HFIN.2)⟩
        case measure =>
          have h1 := HFIN.1.go.left_eq
          have h2 := HI.out.go.left_eq
          have := HCN.out
          omega
      · have HVM : Hid (vd ∉ upOf (validK l) l) := fun c => by
          obtain ⟨t', h1, h2⟩ := (fin_valid HOK.out vd).2 c
          rw [HTT.out] at h1
          cases h1
          exact hnm h2
        go_wp2
        go_roundw
        case rel => exact ⟨_, _, _, _, HGN.out.skip HI.out HVM.out HCN.out, HBN.out⟩
        case measure =>
          have h1 := HGN.out.go.left_eq
          have h2 := HI.out.go.left_eq
          have := HCN.out
          omega

end Go.Proofs.Ytgdkndlkapmhjaa

/- States held against each other: the program's SameState. -/
namespace Go.Proofs.Ytgdkndlkapmhjaa
open Go.RowKit

/-- The same mails. -/
noncomputable def sameM (ms ns : List Ml) : Bool := @decide (ms = ns) (Classical.propDecidable _)
theorem sameM_yes {ms ns : List Ml} (h : ms = ns) : sameM ms ns = true := @decide_eq_true _ (Classical.propDecidable _) h
theorem sameM_no {ms ns : List Ml} (h : ms ≠ ns) : sameM ms ns = false := @decide_eq_false _ (Classical.propDecidable _) h
theorem sameM_all {ms ns : List Ml} (hl : ms.length = ns.length) (h : ∀ (k : Nat) (x y : Ml), ms[k]? = some x → ns[k]? = some y → x = y) : sameM ms ns = true :=
  sameM_yes (List.ext_getElem? fun i => by
    by_cases c : i < ms.length
    · have e1 : ms[i]? = some ms[i] := List.getElem?_eq_getElem c
      have e2 : ns[i]? = some (ns[i]'(by omega)) := List.getElem?_eq_getElem (by omega)
      rw [e1, e2, h i _ _ e1 e2]
    · rw [List.getElem?_eq_none (by omega), List.getElem?_eq_none (by omega)])
/-- The same box. -/
noncomputable def sameB (x y : Bx) : Bool := @decide (x = y) (Classical.propDecidable _)
theorem sameB_yes {x y : Bx} (h : x = y) : sameB x y = true := @decide_eq_true _ (Classical.propDecidable _) h
theorem sameB_no {x y : Bx} (h : x ≠ y) : sameB x y = false := @decide_eq_false _ (Classical.propDecidable _) h

set_option maxRecDepth 100000 in
set_option maxHeartbeats 4000000 in
theorem equalMails_any (ps qs : List Ml) (va vb : Value) (w : World) (ha : Rows' mlE w va ps) (hb : Rows' mlE w vb qs) (hla : ps.length ≤ 1099511627776) :
    Calls Try.prog 51 #[va, vb] w fun e w' => e = .returned (.bool (sameM ps qs)) ∧ Below w.heap.size w w' := by
  obtain ⟨ad, n, cap, rfl⟩ : ∃ ad n cap, va = .slice ad n cap := by
    rcases ha.ways with ⟨_, a, c, e⟩ | ⟨_, g, off, c, e, _⟩
    · exact ⟨_, _, _, e⟩
    · exact ⟨_, _, _, e⟩
  obtain ⟨ad2, n2, cap2, rfl⟩ : ∃ ad n cap, vb = .slice ad n cap := by
    rcases hb.ways with ⟨_, a, c, e⟩ | ⟨_, g, off, c, e, _⟩
    · exact ⟨_, _, _, e⟩
    · exact ⟨_, _, _, e⟩
  obtain ⟨hn, ra⟩ := ha.mails
  obtain ⟨hn2, rb⟩ := hb.mails
  have RA := Lib.hid ra
  have RB := Lib.hid rb
  have HN := Lib.hid hn
  have HN2 := Lib.hid hn2
  have hle : n ≤ 1099511627776 := by omega
  obtain ⟨D, hD⟩ : ∃ D, sameM ps qs = D := ⟨_, rfl⟩
  have HD := Lib.hid hD
  rw [hD]
  have hlen : n = n2 ∨ n ≠ n2 := by omega
  clear ha hb ra rb hn hn2 hla hD
  rcases hlen with rfl | hne
  case inr =>
    have HNE := Lib.hid hne
    have hne' : ¬ ((n : Int) = (n2 : Int)) := by omega
    clear hne
    go_enter Try.func51, Try.ntmps51
    go_wp2
    go_ret
    refine ⟨?_, Below.refl _ _⟩
    rw [← HD.out, sameM_no (fun e => HNE.out (by rw [HN.out, HN2.out, e]))]; rfl
  go_enter Try.func51, Try.ntmps51
  go_wp2
  go_loopw [13] (fun kv wr => ∃ k : Nat, k ≤ n ∧ kv = .int .i64 (k : Int) ∧ (∀ (j : Nat) (m m' : Ml), ps[j]? = some m → qs[j]? = some m' → j < k → m = m') ∧ Below w.heap.size w wr) (fun kv _ => n - (intOf kv).toNat)
  case atStart => exact ⟨0, by omega, rfl, fun j m m' _ _ hj => by omega, Below.refl _ _⟩
  case round =>
    obtain ⟨k, hk, rfl, hU, hb⟩ := hrel
    have HU := Lib.hid hU
    clear hU
    by_cases hlk : k < n
    · have bD : Below w.heap.size w wr.drew := hb.trans ((Below.refl wr.heap.size wr).drew.mono hb.size)
      obtain ⟨m, hgm⟩ : ∃ m, ps[k]? = some m := ⟨_, List.getElem?_eq_getElem (by rw [← HN.out]; exact hlk)⟩
      obtain ⟨m', hgm'⟩ : ∃ m, qs[k]? = some m := ⟨_, List.getElem?_eq_getElem (by rw [← HN2.out]; exact hlk)⟩
      obtain ⟨ga, oa, rfl, p0, p1, p2⟩ := MlRow.get RA.out bD hgm
      obtain ⟨gb, ob, rfl, q0, q1, q2⟩ := MlRow.get RB.out bD hgm'
      have HG := Lib.hid hgm
      have HG' := Lib.hid hgm'
      clear hgm hgm' hb
      obtain ⟨U, F, T⟩ := m
      obtain ⟨U', F', T'⟩ := m'
      simp only at p0 p1 p2 q0 q1 q2
      have hk0 : (0 : Int) ≤ (k : Int) := by omega
      have hk1 : (k : Int) < (n : Int) := by omega
      by_cases hsame : U = U' ∧ F = F' ∧ T = T'
      · obtain ⟨rfl, rfl, rfl⟩ := hsame
        go_upto_region 6 with fail
        refine wp_region_held_drew (S := fun x => wr.drew = x) (by kernel_rfl) rfl (fun hHeld => ?_)
        refine takeL (i := 0) (v := .slice (some ⟨ga, oa, none⟩) n cap) rfl (by kernel_rfl) (by kernel_rfl) (by kernel_rfl) (fun _ _ _ h => h) (Or.inl ⟨by rfl, ?_⟩) (by assumption) ?_
        · intro x hSx; subst hSx; go_simp
        try simp only [Act.put, List.setIfInBounds_toArray, List.set_cons_zero, List.set_cons_succ]
        refine takeL (i := 1) (v := .int .i64 (k : Int)) rfl (by kernel_rfl) (by kernel_rfl) (by kernel_rfl) (fun _ _ _ h => h) (Or.inl ⟨by rfl, ?_⟩) (by assumption) ?_
        · intro x hSx; subst hSx; go_simp
        try simp only [Act.put, List.setIfInBounds_toArray, List.set_cons_zero, List.set_cons_succ]
        refine takeL (i := 2) (v := .pointer (some ⟨ga, oa + k * 3, none⟩)) rfl (by kernel_rfl) (by kernel_rfl) (by kernel_rfl) (fun _ _ _ h => h) (Or.inl ⟨by rfl, ?_⟩) (by assumption) ?_
        · intro x hSx; subst hSx; go_simp
        try simp only [Act.put, List.setIfInBounds_toArray, List.set_cons_zero, List.set_cons_succ]
        refine takeL (i := 3) (v := .agg #[.int .i64 U, .int .i64 F, .string T]) rfl (by kernel_rfl) (by kernel_rfl) (by kernel_rfl) (fun _ _ _ h => h) (Or.inl ⟨by rfl, ?_⟩) (by assumption) ?_
        · intro x hSx; subst hSx; go_simp
        try simp only [Act.put, List.setIfInBounds_toArray, List.set_cons_zero, List.set_cons_succ]
        refine takeL (i := 4) (v := .slice (some ⟨gb, ob, none⟩) n cap2) rfl (by kernel_rfl) (by kernel_rfl) (by kernel_rfl) (fun _ _ _ h => h) (Or.inl ⟨by rfl, ?_⟩) (by assumption) ?_
        · intro x hSx; subst hSx; go_simp
        try simp only [Act.put, List.setIfInBounds_toArray, List.set_cons_zero, List.set_cons_succ]
        refine takeL (i := 5) (v := .int .i64 (k : Int)) rfl (by kernel_rfl) (by kernel_rfl) (by kernel_rfl) (fun _ _ _ h => h) (Or.inl ⟨by rfl, ?_⟩) (by assumption) ?_
        · intro x hSx; subst hSx; go_simp
        try simp only [Act.put, List.setIfInBounds_toArray, List.set_cons_zero, List.set_cons_succ]
        refine takeL (i := 6) (v := .pointer (some ⟨gb, ob + k * 3, none⟩)) rfl (by kernel_rfl) (by kernel_rfl) (by kernel_rfl) (fun _ _ _ h => h) (Or.inl ⟨by rfl, ?_⟩) (by assumption) ?_
        · intro x hSx; subst hSx; go_simp
        try simp only [Act.put, List.setIfInBounds_toArray, List.set_cons_zero, List.set_cons_succ]
        refine takeL (i := 7) (v := .agg #[.int .i64 U, .int .i64 F, .string T]) rfl (by kernel_rfl) (by kernel_rfl) (by kernel_rfl) (fun _ _ _ h => h) (Or.inl ⟨by rfl, ?_⟩) (by assumption) ?_
        · intro x hSx; subst hSx; go_simp
        try simp only [Act.put, List.setIfInBounds_toArray, List.set_cons_zero, List.set_cons_succ]
        refine takeL (i := 8) (v := .bool false) rfl (by kernel_rfl) (by kernel_rfl) (by kernel_rfl) (fun _ _ _ h => h) (Or.inl ⟨by rfl, ?_⟩) (by assumption) ?_
        · intro x hSx; subst hSx; go_simp
        try simp only [Act.put, List.setIfInBounds_toArray, List.set_cons_zero, List.set_cons_succ]
        refine wpAnyH_done (by kernel_rfl) ?_ _
        go_wp2
        exact ⟨⟨k + 1, by omega, by go_num, fun j m m' hj hj' hjk => by
          by_cases c : j = k
          · subst c; have h1 := HG.out; have h2 := HG'.out; rw [hj] at h1; rw [hj'] at h2; cases h1; cases h2; rfl
          · exact HU.out j m m' hj hj' (by omega), bD⟩, by first | omega | (simp [intOf]; omega)⟩
      · have HE : Hid (D = false) := by
          rw [← HD.out]
          exact sameM_no (fun e => hsame (by
            have h1 := HG.out; have h2 := HG'.out
            rw [e, h2] at h1; cases h1; exact ⟨rfl, rfl, rfl⟩))
        have HNE := Lib.hid hsame
        clear hsame
        go_upto_region 6 with fail
        refine wp_region_held_drew (S := fun x => wr.drew = x) (by kernel_rfl) rfl (fun hHeld => ?_)
        refine takeL (i := 0) (v := .slice (some ⟨ga, oa, none⟩) n cap) rfl (by kernel_rfl) (by kernel_rfl) (by kernel_rfl) (fun _ _ _ h => h) (Or.inl ⟨by rfl, ?_⟩) (by assumption) ?_
        · intro x hSx; subst hSx; go_simp
        try simp only [Act.put, List.setIfInBounds_toArray, List.set_cons_zero, List.set_cons_succ]
        refine takeL (i := 1) (v := .int .i64 (k : Int)) rfl (by kernel_rfl) (by kernel_rfl) (by kernel_rfl) (fun _ _ _ h => h) (Or.inl ⟨by rfl, ?_⟩) (by assumption) ?_
        · intro x hSx; subst hSx; go_simp
        try simp only [Act.put, List.setIfInBounds_toArray, List.set_cons_zero, List.set_cons_succ]
        refine takeL (i := 2) (v := .pointer (some ⟨ga, oa + k * 3, none⟩)) rfl (by kernel_rfl) (by kernel_rfl) (by kernel_rfl) (fun _ _ _ h => h) (Or.inl ⟨by rfl, ?_⟩) (by assumption) ?_
        · intro x hSx; subst hSx; go_simp
        try simp only [Act.put, List.setIfInBounds_toArray, List.set_cons_zero, List.set_cons_succ]
        refine takeL (i := 3) (v := .agg #[.int .i64 U, .int .i64 F, .string T]) rfl (by kernel_rfl) (by kernel_rfl) (by kernel_rfl) (fun _ _ _ h => h) (Or.inl ⟨by rfl, ?_⟩) (by assumption) ?_
        · intro x hSx; subst hSx; go_simp
        try simp only [Act.put, List.setIfInBounds_toArray, List.set_cons_zero, List.set_cons_succ]
        refine takeL (i := 4) (v := .slice (some ⟨gb, ob, none⟩) n cap2) rfl (by kernel_rfl) (by kernel_rfl) (by kernel_rfl) (fun _ _ _ h => h) (Or.inl ⟨by rfl, ?_⟩) (by assumption) ?_
        · intro x hSx; subst hSx; go_simp
        try simp only [Act.put, List.setIfInBounds_toArray, List.set_cons_zero, List.set_cons_succ]
        refine takeL (i := 5) (v := .int .i64 (k : Int)) rfl (by kernel_rfl) (by kernel_rfl) (by kernel_rfl) (fun _ _ _ h => h) (Or.inl ⟨by rfl, ?_⟩) (by assumption) ?_
        · intro x hSx; subst hSx; go_simp
        try simp only [Act.put, List.setIfInBounds_toArray, List.set_cons_zero, List.set_cons_succ]
        refine takeL (i := 6) (v := .pointer (some ⟨gb, ob + k * 3, none⟩)) rfl (by kernel_rfl) (by kernel_rfl) (by kernel_rfl) (fun _ _ _ h => h) (Or.inl ⟨by rfl, ?_⟩) (by assumption) ?_
        · intro x hSx; subst hSx; go_simp
        try simp only [Act.put, List.setIfInBounds_toArray, List.set_cons_zero, List.set_cons_succ]
        refine takeL (i := 7) (v := .agg #[.int .i64 U', .int .i64 F', .string T']) rfl (by kernel_rfl) (by kernel_rfl) (by kernel_rfl) (fun _ _ _ h => h) (Or.inl ⟨by rfl, ?_⟩) (by assumption) ?_
        · intro x hSx; subst hSx; go_simp
        try simp only [Act.put, List.setIfInBounds_toArray, List.set_cons_zero, List.set_cons_succ]
        refine takeL (i := 8) (v := .bool true) rfl (by kernel_rfl) (by kernel_rfl) (by kernel_rfl) (fun _ _ _ h => h) (Or.inl ⟨by rfl, ?_⟩) (by assumption) ?_
        · intro x hSx; subst hSx; go_simp; exact fun h1 h2 h3 => HNE.out ⟨h1, h2, (ba_same' _ _).1 h3⟩
        try simp only [Act.put, List.setIfInBounds_toArray, List.set_cons_zero, List.set_cons_succ]
        refine wpAnyH_done (by kernel_rfl) ?_ _
        go_wp2
        go_ret
        exact ⟨by rw [HE.out]; rfl, bD⟩
    · go_wp2
      go_ret
      refine ⟨?_, hb⟩
      rw [← HD.out, sameM_all (HN.out.symm.trans HN2.out) (fun j x y h1 h2 => HU.out j x y h1 h2 (by have := (List.getElem?_eq_some_iff.1 h1).1; have := HN.out; omega))]; rfl

set_option maxRecDepth 100000 in
set_option maxHeartbeats 2000000 in
theorem sameBox_any (x y : Bx) (a1 a2 : Option Addr) (n1 n2 c1 c2 : Nat) (w : World) (ha : Rows' mlE w (.slice a1 n1 c1) x.mails) (hb : Rows' mlE w (.slice a2 n2 c2) y.mails) (hl : x.mails.length ≤ 1099511627776) :
    Calls Try.prog 37 #[.agg #[.int .i64 x.valid, .string x.user, .string x.name, .int .i64 x.next, .slice a1 n1 c1], .agg #[.int .i64 y.valid, .string y.user, .string y.name, .int .i64 y.next, .slice a2 n2 c2]] w fun e w' => e = .returned (.bool (sameB x y)) ∧ Below w.heap.size w w' := by
  have b1 : Below w.heap.size w ((w.alloc (.cells #[.int .i64 x.valid, .string x.user, .string x.name, .int .i64 x.next, .slice a1 n1 c1] 55)).alloc (.cells #[.int .i64 y.valid, .string y.user, .string y.name, .int .i64 y.next, .slice a2 n2 c2] 55)) := ((Below.refl _ _).alloc (Nat.le_refl _) _).alloc (by simp) _
  have HE := Lib.hid (fun wx (hx : Below w.heap.size w wx) => equalMails_any x.mails y.mails _ _ wx (ha.later hx) (hb.later hx) hl)
  clear ha hb
  obtain ⟨V, U, M, N, ms⟩ := x
  obtain ⟨V', U', M', N', ms'⟩ := y
  simp only at HE b1 ⊢
  by_cases e0 : V = V'
  case neg =>
    go_enter Try.func37, Try.ntmps37
    go_wp2
    go_ret
    exact ⟨by rw [sameB_no (fun e => e0 (Bx.mk.inj e).1)]; rfl, b1⟩
  subst e0
  by_cases e1 : U = U'
  case neg =>
    have e1' : ¬ (U.toList = U'.toList) := fun h => e1 ((ba_same' _ _).1 h)
    go_enter Try.func37, Try.ntmps37
    go_wp2
    go_ret
    exact ⟨by rw [sameB_no (fun e => e1 (Bx.mk.inj e).2.1)]; rfl, b1⟩
  subst e1
  by_cases e2 : M = M'
  case neg =>
    have e2' : ¬ (M.toList = M'.toList) := fun h => e2 ((ba_same' _ _).1 h)
    go_enter Try.func37, Try.ntmps37
    go_wp2
    go_ret
    exact ⟨by rw [sameB_no (fun e => e2 (Bx.mk.inj e).2.2.1)]; rfl, b1⟩
  subst e2
  by_cases e3 : N = N'
  case neg =>
    go_enter Try.func37, Try.ntmps37
    go_wp2
    go_ret
    exact ⟨by rw [sameB_no (fun e => e3 (Bx.mk.inj e).2.2.2.1)]; rfl, b1⟩
  subst e3
  have HS : Hid (sameB ⟨V, U, M, N, ms⟩ ⟨V, U, M, N, ms'⟩ = sameM ms ms') := by
    by_cases c : ms = ms'
    · subst c; exact (sameB_yes rfl).trans (sameM_yes rfl).symm
    · exact (sameB_no (fun e => c (Bx.mk.inj e).2.2.2.2)).trans (sameM_no c).symm
  rw [HS.out]
  generalize sameM ms ms' = D at HE ⊢
  clear HS
  go_enter Try.func37, Try.ntmps37
  go_wp2_with (go_at_call 51; refine (HE.out _ b1).mono ?_; rintro e w1 ⟨rfl, k1⟩)
  go_ret
  exact ⟨rfl, b1.trans (k1.mono b1.size)⟩

set_option maxRecDepth 100000 in
set_option maxHeartbeats 4000000 in
theorem equalBoxes_any (ps qs : List Bx) (va vb : Value) (w : World) (ha : BRd w va ps) (hb : BRd w vb qs) (hla : ps.length ≤ 1099511627776) (hma : ∀ b ∈ ps, b.mails.length ≤ 1099511627776) :
    Calls Try.prog 36 #[va, vb, .func (.func 37) #[] #[]] w fun e w' => e = .returned (.bool (sameS ps qs)) ∧ Below w.heap.size w w' := by
  obtain ⟨ad, cap, rfl, hrowa⟩ := ha.boxes
  obtain ⟨ad2, cap2, rfl, hrowb⟩ := hb.boxes
  have HA := Lib.hid hrowa
  have HB := Lib.hid hrowb
  have HMA := Lib.hid hma
  clear ha hb hrowa hrowb hma
  obtain ⟨D, hD⟩ : ∃ D, sameS ps qs = D := ⟨_, rfl⟩
  have HD := Lib.hid hD
  rw [hD]
  clear hD
  by_cases hlen : ps.length = qs.length
  case neg =>
    have hne : ¬ ((ps.length : Int) = (qs.length : Int)) := by omega
    go_enter Try.func36, Try.ntmps36
    go_wp2
    go_ret
    exact ⟨by rw [← HD.out, sameS_len hlen]; rfl, Below.refl _ _⟩
  obtain ⟨n, hn⟩ : ∃ n, ps.length = n := ⟨_, rfl⟩
  have hm : qs.length = n := by omega
  have HN := Lib.hid hn
  have HM := Lib.hid hm
  rw [hn] at hla
  rw [hn, hm]
  clear hn hm hlen
  go_enter Try.func36, Try.ntmps36
  go_wp2
  go_loopw [17] (fun iv wr => ∃ i : Nat, i ≤ n ∧ iv = .int .i64 (i : Int) ∧ (∀ (j : Nat) (x y : Bx), ps[j]? = some x → qs[j]? = some y → j < i → x = y) ∧ Below w.heap.size w wr) (fun iv _ => n - (intOf iv).toNat)
  case atStart => exact ⟨0, by omega, rfl, fun j x y _ _ hj => by omega, Below.refl _ _⟩
  case round =>
    obtain ⟨i, hi, rfl, hU, hb⟩ := hrel
    have HU := Lib.hid hU
    clear hU
    by_cases hlt : i < n
    · obtain ⟨x, hgx⟩ : ∃ x, ps[i]? = some x := ⟨_, List.getElem?_eq_getElem (by rw [HN.out]; exact hlt)⟩
      obtain ⟨y, hgy⟩ : ∃ y, qs[i]? = some y := ⟨_, List.getElem?_eq_getElem (by rw [HM.out]; exact hlt)⟩
      obtain ⟨gp, op, a1, n1, c1, rfl, p0, p1, p2, p3, p4, ra⟩ := HA.out _ hb i _ hgx
      obtain ⟨gq, oq, a2, n2, c2, rfl, q0, q1, q2, q3, q4, rb⟩ := HB.out _ (hb.trans ((belNew _ (.cells #[.int .i64 x.valid, .string x.user, .string x.name, .int .i64 x.next, .slice a1 n1 c1] 55)).mono hb.size)) i _ hgy
      have b2 : Below w.heap.size w ((wr.alloc (.cells #[.int .i64 x.valid, .string x.user, .string x.name, .int .i64 x.next, .slice a1 n1 c1] 55)).alloc (.cells #[.int .i64 y.valid, .string y.user, .string y.name, .int .i64 y.next, .slice a2 n2 c2] 55)) := (hb.alloc hb.size _).alloc (by simp; have := hb.size; omega) _
      have HS := Lib.hid (sameBox_any x y a1 a2 n1 n2 c1 c2 _ (ra.later b2) (rb.later b2) (HMA.out x (List.mem_of_getElem? hgx)))
      have HX := Lib.hid hgx
      have HY := Lib.hid hgy
      clear hgx hgy ra rb
      have hi0 : (0 : Int) ≤ (i : Int) := by omega
      have hi1 : (i : Int) < (n : Int) := by omega
      by_cases hxy : x = y
      · have HXY := Lib.hid hxy
        rw [sameB_yes hxy] at HS
        clear hxy
        go_wp2_with (go_at_call 37; refine HS.out.mono ?_; rintro e w1 ⟨rfl, k1⟩)
        go_roundw
        case rel => exact ⟨i + 1, by omega, by go_num, fun j u v h1 h2 hj => by
          by_cases c : j = i
          · subst c
            have e1 := HX.out; have e2 := HY.out; rw [h1] at e1; rw [h2] at e2; cases e1; cases e2
            exact HXY.out
          · exact HU.out j u v h1 h2 (by omega), b2.trans (k1.mono b2.size)⟩
        case measure => simp [intOf]; omega
      · rw [sameB_no hxy] at HS
        have HE : Hid (D = false) := by rw [← HD.out]; exact sameS_part HX.out HY.out hxy
        clear hxy
        go_wp2_with (go_at_call 37; refine HS.out.mono ?_; rintro e w1 ⟨rfl, k1⟩)
        go_ret
        exact ⟨by rw [HE.out]; rfl, b2.trans (k1.mono b2.size)⟩
    · go_wp2
      go_ret
      refine ⟨?_, hb⟩
      rw [← HD.out, sameS_all (HN.out.trans HM.out.symm) (fun j x y h1 h2 => HU.out j x y h1 h2 (by have := (List.getElem?_eq_some_iff.1 h1).1; have := HN.out; omega))]; rfl

set_option maxRecDepth 100000 in
set_option maxHeartbeats 1000000 in
theorem implSameState_any (ps qs : List Bx) (va vb : Value) (w : World) (ha : BRd w va ps) (hb : BRd w vb qs) (hla : ps.length ≤ 1099511627776) (hma : ∀ b ∈ ps, b.mails.length ≤ 1099511627776) :
    Calls Try.prog 13 #[.agg #[va], .agg #[vb]] w fun e w' => e = .returned (.bool (sameS ps qs)) ∧ Below w.heap.size w w' := by
  obtain ⟨ad, cap, rfl, _⟩ := ha.boxes
  obtain ⟨ad2, cap2, rfl, _⟩ := hb.boxes
  have b1 : Below w.heap.size w ((w.alloc (.cells #[.slice ad ps.length cap] 28)).alloc (.cells #[.slice ad2 qs.length cap2] 28)) := ((Below.refl _ _).alloc (Nat.le_refl _) _).alloc (by simp) _
  have HE := Lib.hid (equalBoxes_any ps qs _ _ _ (ha.later b1) (hb.later b1) hla hma)
  clear ha hb hma
  generalize sameS ps qs = D at HE ⊢
  go_enter Try.func13, Try.ntmps13
  go_wp2_with (go_at_call 36; refine HE.out.mono ?_; rintro e w1 ⟨rfl, k1⟩)
  go_ret
  exact ⟨rfl, b1.trans (k1.mono b1.size)⟩

end Go.Proofs.Ytgdkndlkapmhjaa
