/- Texts of our own, joined. -/
import Derived.Test.YtgcnebepklelpaaGreatJp
import Derived.Test.YtgcnebepklelpaaGreatJh
import Derived.Test.YtgcnebepklelpaaGreatJk
import Derived.Test.YtgcnebepklelpaaGreatJg
import Derived.Test.YtgcnebepklelpaaGreatJi
import Derived.Test.YtgcnebepklelpaaGreatJl
/- What records tell: the boxes in order; the program's StateOf. -/
namespace Go.Proofs.YtgcnebepklelpaaGreat
open Go.RowKit

theorem perm_lift {α β : Type} (f : α → β) {m n : List β} (h : m.Perm n) : ∀ l : List α, l.map f = n → ∃ l' : List α, l'.Perm l ∧ l'.map f = m := by
  induction h with
  | nil => intro l hl; exact ⟨[], by have := List.map_eq_nil_iff.1 hl; rw [this], rfl⟩
  | cons x _ ih =>
    intro l hl
    cases l with
    | nil => cases hl
    | cons a l =>
      simp only [List.map_cons, List.cons.injEq] at hl
      obtain ⟨l', h1, h2⟩ := ih l hl.2
      exact ⟨a :: l', h1.cons a, by simp [h2, hl.1]⟩
  | swap x y _ =>
    intro l hl
    match l, hl with
    | a :: b :: l, hl =>
      simp only [List.map_cons, List.cons.injEq] at hl
      exact ⟨b :: a :: l, List.Perm.swap _ _ _, by simp [hl.1, hl.2.1, hl.2.2]⟩
  | trans _ _ ih1 ih2 =>
    intro l hl
    obtain ⟨l1, h1, h2⟩ := ih2 l hl
    obtain ⟨l2, h3, h4⟩ := ih1 l1 h2
    exact ⟨l2, h3.trans h1, h4⟩

theorem StO.mixed {B : Nat} {w w' : World} {g n cap : Nat} {bs : List Bx} {hs hs' : List BxH} (h : StO B w (.slice (some ⟨g, 0, none⟩) n cap) bs hs) (hp : hs'.Perm hs) (hr : RBuf hdE B w' w' (.slice (some ⟨g, 0, none⟩) n cap) hs') (hg : w.grownBy w' (some g)) :
    ∃ bs', bs'.Perm bs ∧ StO B w' (.slice (some ⟨g, 0, none⟩) n cap) bs' hs' := by
  have hz : (hs.zip bs).map Prod.fst = hs := by rw [List.map_fst_zip]; rw [h.len]; exact Nat.le_refl _
  obtain ⟨ps, hps, hfst⟩ := perm_lift Prod.fst hp (hs.zip bs) hz
  have hsnd : (ps.map Prod.snd).Perm bs := by
    have := hps.map Prod.snd
    rwa [List.map_snd_zip (by rw [h.len]; exact Nat.le_refl _)] at this
  have hmem : ∀ {x : BxH} {b : Bx}, (x, b) ∈ ps → ∃ j, hs[j]? = some x ∧ bs[j]? = some b := fun {x b} hm => by
    have := hps.mem_iff.1 hm
    obtain ⟨j, hj, e⟩ := List.getElem_of_mem this
    rw [List.getElem_zip] at e
    have hj' : j < hs.length ∧ j < bs.length := by rw [List.length_zip] at hj; omega
    cases e
    exact ⟨j, List.getElem?_eq_getElem hj'.1, List.getElem?_eq_getElem hj'.2⟩
  have hat : ∀ {j : Nat} {x : BxH} {b : Bx}, hs'[j]? = some x → (ps.map Prod.snd)[j]? = some b → (x, b) ∈ ps := fun {j x b} h1 h2 => by
    rw [← hfst, List.getElem?_map] at h1
    rw [List.getElem?_map] at h2
    cases e : ps[j]? with
    | none => rw [e] at h1; cases h1
    | some p =>
      rw [e] at h1 h2
      simp at h1 h2
      obtain ⟨p1, p2⟩ := p
      simp at h1 h2
      subst h1 h2
      exact List.mem_of_getElem? e
  have hpw : hs.Pairwise (fun x y => ∀ k, x.mv.ownBlock = some k → y.mv.ownBlock ≠ some k) := by
    rw [List.pairwise_iff_getElem]
    intro i j hi hj hij k hk
    exact h.apart i j _ _ (List.getElem?_eq_getElem hi) (List.getElem?_eq_getElem hj) (by omega) k hk
  have hpw' : hs'.Pairwise (fun x y => ∀ k, x.mv.ownBlock = some k → y.mv.ownBlock ≠ some k) := (hp.pairwise_iff (fun {x y} hxy k hk hk' => hxy k hk' hk)).2 hpw
  refine ⟨ps.map Prod.snd, hsnd, hr, by rw [← hfst]; simp, fun j x b h1 h2 => ?_, fun j x h1 k hk => ?_, fun i j x y h1 h2 hij k hk => ?_⟩
  · obtain ⟨i, e1, e2⟩ := hmem (hat h1 h2)
    refine ⟨(h.at' i x b e1 e2).1, (h.at' i x b e1 e2).2.shift hg ?_⟩
    cases hv : x.mv.ownBlock with
    | none => exact .inl rfl
    | some k => exact .inr (fun e => h.far i x e1 k hv (by rw [← Option.some.inj e]; rfl))
  · obtain ⟨i, hi, e⟩ := List.getElem_of_mem (hp.mem_iff.1 (List.mem_of_getElem? h1))
    exact h.far i x (by rw [List.getElem?_eq_getElem hi, e]) k hk
  · obtain ⟨hi, rfl⟩ := List.getElem?_eq_some_iff.1 h1
    obtain ⟨hj, rfl⟩ := List.getElem?_eq_some_iff.1 h2
    rw [List.pairwise_iff_getElem] at hpw'
    rcases Nat.lt_or_gt_of_ne hij with c | c
    · exact hpw' i j hi hj c k hk
    · exact fun e => hpw' j i hj hi c k e hk

set_option maxRecDepth 100000 in
set_option maxHeartbeats 1000000 in
theorem byValid_any (x y : BxH) (W : World) : Calls Tryz.prog 43 #[.agg #[.int .i64 x.valid, .string x.user, .string x.name, .int .i64 x.next, .slice x.a x.n x.c], .agg #[.int .i64 y.valid, .string y.user, .string y.name, .int .i64 y.next, .slice y.a y.n y.c]] W fun e w' => e = .returned (.int .i64 (Lib.compareInt x.valid y.valid)) ∧ ∃ q os', w' = Sort.grow (W.drewN q) os' := by
  generalize hr : Lib.compareInt x.valid y.valid = r
  have hcon := fun W' => compare_any x.valid y.valid W'
  rw [hr] at hcon
  clear hr
  go_enter Tryz.func43, Tryz.ntmps43
  go_wp2_with (go_at_call 68; refine (hcon _).mono ?_; rintro e w' ⟨rfl, rfl⟩)
  go_ret
  exact ⟨rfl, 0, _, by rw [Sort.alloc_eq_grow, Sort.alloc_eq_grow, Sort.grow_grow]; rfl⟩
theorem ltValid (x y : BxH) : ltOf (fun x y : BxH => Lib.compareInt x.valid y.valid) x y = decide (x.valid < y.valid) := by
  unfold ltOf Lib.compareInt
  by_cases h1 : x.valid < y.valid
  · simp [h1]
  · by_cases h2 : y.valid < x.valid <;> simp [h1, h2]
theorem swoValid : Sort.SWO (ltOf fun x y : BxH => Lib.compareInt x.valid y.valid) where
  irrefl x := by rw [ltValid]; simp
  trans x y z h1 h2 := by rw [ltValid] at *; simp at *; omega
  ntrans x y z h1 h2 := by rw [ltValid] at *; simp at *; omega

set_option maxRecDepth 100000 in
set_option maxHeartbeats 1000000 in
theorem sortBoxes_any (bs : List Bx) (hs : List BxH) (B g cap : Nat) (w : World) (h : StO B w (.slice (some ⟨g, 0, none⟩) hs.length cap) bs hs) (hl : hs.length ≤ 1000000) :
    Calls Tryz.prog 42 #[.slice (some ⟨g, 0, none⟩) hs.length cap, .func (.func 43) #[] #[]] w fun e w' => e = .returned (.tuple #[]) ∧ ∃ bs' hs', bs'.Perm bs ∧ bs'.Pairwise (fun x y => ¬ y.valid < x.valid) ∧ StO B w' (.slice (some ⟨g, 0, none⟩) hs.length cap) bs' hs' ∧ w.grownBy w' (some g) := by
  have eg : ∀ args w, (callFunc 43 args).run Tryz.prog w = .ok (.enter 43 args) w := enters_of Tryz.func43 (by kernel_rfl) rfl
  have hcmp : CmpLays Tryz.prog 43 #[] hdE.f 5 (fun x y : BxH => Lib.compareInt x.valid y.valid) g 0 hs.toArray.size w := fun _ _ _ _ x y => byValid_any x y _
  have hcon := AnyQ.slices_SortFunc Tryz.sortBox 5 Tryz.isAgg78 Tryz.sizeOf78 hdE.f (fun _ => rfl) hdE.one (fun x y : BxH => Lib.compareInt x.valid y.valid) swoValid 43 #[] g 0 cap hs.toArray w eg hcmp h.row.holdsK (h.row.own.lt g rfl).2 (by simp; omega)
  have hcon : Calls Tryz.prog 42 #[.slice (some ⟨g, 0, none⟩) hs.length cap, .func (.func 43) #[] #[]] w _ := hcon
  refine hcon.mono ?_
  rintro e w' ⟨rfl, d', n, os, hp, hs', rfl⟩
  have hp' := perm_of hp
  have hso := sorted_of hp.1 hs'
  have hlen : d'.toList.length = hs.length := hp'.length_eq
  have hg := sorted_grown hdE w g n d' os
  have hr : RBuf hdE B (sortWorldK hdE.f hdE.sz w g 0 n d' os) (sortWorldK hdE.f hdE.sz w g 0 n d' os) (.slice (some ⟨g, 0, none⟩) hs.length cap) d'.toList := by
    have := (h.row.sorted hlen n os).here
    rwa [Array.toArray_toList] at this
  obtain ⟨bs', hb1, hb2⟩ := h.mixed hp' hr hg
  refine ⟨rfl, bs', d'.toList, hb1, ?_, hb2, hg⟩
  rw [List.pairwise_iff_getElem]
  intro i j hi hj hij
  rw [List.pairwise_iff_getElem] at hso
  have hi' : i < d'.toList.length := by rw [hb2.len]; exact hi
  have hj' : j < d'.toList.length := by rw [hb2.len]; exact hj
  have := hso i j hi' hj' hij
  rw [ltValid] at this
  have e1 := (hb2.at' i _ _ (List.getElem?_eq_getElem hi') (List.getElem?_eq_getElem hi)).1.1
  have e2 := (hb2.at' j _ _ (List.getElem?_eq_getElem hj') (List.getElem?_eq_getElem hj)).1.1
  rw [← e1, ← e2]
  simpa using this

def CollB (l : List Itm) (todo : Int → Bool) (bs : List Bx) : Prop := (∀ c, c ∈ bs ↔ ∃ v, v ∈ upOf (validK l) l ∧ todo v = false ∧ c = boxK l v) ∧ (bs.map (·.valid)).Nodup
theorem CollB.step {l : List Itm} {todo : Int → Bool} {bs : List Bx} (h : CollB l todo bs) {v : Int} (hv : todo v = true) (hm : v ∈ upOf (validK l) l) : CollB l (fun y => todo y && !decide (y = v)) (bs ++ [boxK l v]) := by
  have hn : ∀ c ∈ bs, c.valid ≠ v := fun c hc e => by
    obtain ⟨u, _, h2, h3⟩ := (h.1 c).1 hc
    have : u = v := by rw [h3] at e; exact e
    rw [this, hv] at h2
    cases h2
  refine ⟨fun c => ?_, ?_⟩
  · rw [List.mem_append, List.mem_singleton]
    constructor
    · rintro (hc | rfl)
      · obtain ⟨u, h1, h2, h3⟩ := (h.1 c).1 hc
        exact ⟨u, h1, by simp [h2], h3⟩
      · exact ⟨v, hm, by simp, rfl⟩
    · rintro ⟨u, h1, h2, h3⟩
      by_cases e : u = v
      · subst e; exact .inr h3
      · exact .inl ((h.1 c).2 ⟨u, h1, by simpa [e] using h2, h3⟩)
  · rw [List.map_append, List.nodup_append]
    refine ⟨h.2, by simp, fun a ha b hb => ?_⟩
    obtain ⟨c, hc, rfl⟩ := List.mem_map.1 ha
    simp at hb
    rw [hb]
    exact hn c hc
theorem CollB.skip {l : List Itm} {todo : Int → Bool} {bs : List Bx} (h : CollB l todo bs) {v : Int} (hm : v ∉ upOf (validK l) l) : CollB l (fun y => todo y && !decide (y = v)) bs := by
  refine ⟨fun c => ?_, h.2⟩
  rw [h.1 c]
  constructor
  · rintro ⟨u, h1, h2, h3⟩; exact ⟨u, h1, by simp [h2], h3⟩
  · rintro ⟨u, h1, h2, h3⟩
    by_cases e : u = v
    · subst e; exact absurd h1 hm
    · exact ⟨u, h1, by simpa [e] using h2, h3⟩

structure BxG (w : World) (B b r n : Nat) (l : List Itm) (P : Int → Option Nat) (lv : Value) (bs : List Bx) (hs : List BxH) (todo : Int → Bool) (cnt : Nat) (X : World) : Prop where
  sto : StO B X lv bs hs
  some' : ∃ k, lv.ownBlock = some k
  go : MapGo iK ptrV X b r n (fun v => (P v).map (fun a => a + 2)) todo cnt
  told : ToldO b n X (finT l) P
  coll : CollB l todo bs
  len : bs.length + cnt ≤ n
  bel : Below w.heap.size w X
  hB : w.heap.size ≤ B
  hr : B ≤ r
  hb : b < B
  top : ∀ v a, P v = some a → a + 2 < B

theorem ToldO.under {b n B : Nat} {w w' : World} {T : Int → Option Tb} {P : Int → Option Nat} (h : ToldO b n w T P) (hb : Below B w w') (h1 : b < B) (h2 : ∀ v a, P v = some a → a + 2 < B) : ToldO b n w' T P :=
  ⟨h.map.same (hb.block b h1), h.dom, fun v a t e1 e2 => by have := h2 v a e1; exact (h.at' v a t e1 e2).same (hb.block a (by omega)) (hb.block (a + 1) (by omega)) (hb.block (a + 2) this), h.low, h.apart⟩
structure BxN (w : World) (B b r n : Nat) (l : List Itm) (P : Int → Option Nat) (lv : Value) (bs : List Bx) (hs : List BxH) (todo : Int → Bool) (cnt : Nat) (X : World) : Prop where
  sto : StO B X lv bs hs
  go : MapGo iK ptrV X b r n (fun v => (P v).map (fun a => a + 2)) todo cnt
  told : ToldO b n X (finT l) P
  bel : Below w.heap.size w X
theorem BxN.later {w : World} {B b r n : Nat} {l : List Itm} {P : Int → Option Nat} {lv : Value} {bs : List Bx} {hs : List BxH} {todo : Int → Bool} {cnt : Nat} {X Y : World} (h : BxN w B b r n l P lv bs hs todo cnt X) (hb : Below X.heap.size X Y) : BxN w B b r n l P lv bs hs todo cnt Y :=
  ⟨h.sto.later hb, h.go.later hb, h.told.later hb, h.bel.trans (hb.mono h.bel.size)⟩
theorem BxN.of {w : World} {B b r n : Nat} {l : List Itm} {P : Int → Option Nat} {lv : Value} {bs : List Bx} {hs : List BxH} {todo todo' : Int → Bool} {cnt cnt' : Nat} {X Y : World} (h : BxG w B b r n l P lv bs hs todo cnt X) (hg : X.grownBy Y (some r)) (hgo : MapGo iK ptrV Y b r n (fun v => (P v).map (fun a => a + 2)) todo' cnt') : BxN w B b r n l P lv bs hs todo' cnt' Y := by
  have hB : Below B X Y := (Below.refl B X).grown hg h.sto.row.le (fun k hk => by have := Option.some.inj hk; have := h.hr; omega)
  refine ⟨h.sto.shift hg (fun k hk => ?_), hgo, h.told.under hB h.hb h.top, h.bel.grown hg h.bel.size (fun k hk => by have := Option.some.inj hk; have := h.hr; have := h.hB; omega)⟩
  have hk' : k = r := (Option.some.inj hk).symm
  subst hk'
  refine ⟨fun e => h.go.notRow h.sto.row e.symm, fun j x hj e => ?_⟩
  have hl : j < hs.length := (List.getElem?_eq_some_iff.1 hj).1
  have hb2 : bs[j]? = some (bs[j]'(by rw [← h.sto.len]; exact hl)) := List.getElem?_eq_getElem _
  exact h.go.notRow (h.sto.at' j x _ hj hb2).2 e.symm
theorem BxN.skip {w : World} {B b r n : Nat} {l : List Itm} {P : Int → Option Nat} {lv : Value} {bs : List Bx} {hs : List BxH} {todo : Int → Bool} {cnt cnt' : Nat} {X Y : World} {v : Int} (h : BxN w B b r n l P lv bs hs (fun y => todo y && !decide (y = v)) cnt' Y) (h0 : BxG w B b r n l P lv bs hs todo cnt X) (hv : v ∉ upOf (validK l) l) (hc : cnt' < cnt) : BxG w B b r n l P lv bs hs (fun y => todo y && !decide (y = v)) cnt' Y :=
  ⟨h.sto, h0.some', h.go, h.told, h0.coll.skip hv, by have := h0.len; omega, h.bel, h0.hB, h0.hr, h0.hb, h0.top⟩
theorem BxN.push {w : World} {B b r n : Nat} {l : List Itm} {P : Int → Option Nat} {lv lv' : Value} {bs : List Bx} {hs : List BxH} {todo : Int → Bool} {cnt cnt' : Nat} {X Y Z : World} {v : Int} (h : BxN w B b r n l P lv bs hs (fun y => todo y && !decide (y = v)) cnt' Y) (h0 : BxG w B b r n l P lv bs hs todo cnt X) (hv : v ∈ upOf (validK l) l) (ht : todo v = true) (hc : cnt' < cnt)
    (x : BxH) (hx : x.valid = (boxK l v).valid ∧ x.user = (boxK l v).user ∧ x.name = (boxK l v).name ∧ x.next = (boxK l v).next) (hm : RBuf mlE B Y Y x.mv (boxK l v).mails) (hf : ∀ k, x.mv.ownBlock = some k → ∀ j, (lv.ownBlock = some j ∨ ∃ (i : Nat) (y : BxH), hs[i]? = some y ∧ y.mv.ownBlock = some j) → j ≠ k)
    (hr : RBuf hdE B Z Z lv' (hs ++ [x])) (hg : Y.grownBy Z lv.ownBlock) (hat : lv'.ownBlock = lv.ownBlock ∨ lv'.ownBlock = some Y.heap.size) :
    BxG w B b r n l P lv' (bs ++ [boxK l v]) (hs ++ [x]) (fun y => todo y && !decide (y = v)) cnt' Z ∧ Below B Y Z := by
  have hB : Below B Y Z := (Below.refl B Y).grown hg h.sto.row.le (fun k hk => (h.sto.row.own.lt k hk).1)
  refine ⟨⟨h.sto.push (boxK l v) x hx hm (fun k hk e => hf k hk k (.inl e) rfl) (fun j y hj k hk e => hf k e k (.inr ⟨j, y, hj, hk⟩) rfl) hr hg hat, ?_, h.go.kept hg (h.told.map.notRow h.sto.row) (h.go.notRow h.sto.row), h.told.under hB h0.hb h0.top, h0.coll.step ht hv, by have := h0.len; simp; omega, h.bel.grown hg h.bel.size (fun k hk => Nat.le_trans h0.hB (h.sto.row.own.lt k hk).1), h0.hB, h0.hr, h0.hb, h0.top⟩, hB⟩
  rcases hat with e | e
  · rw [e]; exact h0.some'
  · exact ⟨_, e⟩

theorem fin_small {l : List Itm} (hok : ∀ x ∈ l, itOk x) {v : Int} {t : Tb} (h : finT l v = some t) : (∀ u x, t.adds u = some x → iK.ok u ∧ x.2.text.size ≤ 1000) ∧ t.named.2.user.size ≤ 1000 ∧ t.named.2.name.size ≤ 1000 := by
  obtain ⟨rfl, _⟩ := finT_some h
  refine ⟨fun u x hx => ?_, ?_⟩
  · rw [goneB_if] at hx
    split at hx
    · cases hx
    · have hx : bestR 3 v u l = some x := hx
      obtain ⟨q1, ⟨q2, q3, q4⟩, _⟩ := bestR_some hx
      have hu := ok_uid (hok x q1).2 (by omega)
      have ht := (hok x q1).2.2.2.2.2.2
      rw [if_pos q2] at ht
      exact ⟨wf_of (by omega) (by omega), by omega⟩
  · have hn : (lessA l v (fmT l v)).named = (tellO v l).getD (0, Rc.nil) := rfl
    rw [hn]
    cases e : tellO v l with
    | none => exact ⟨by show emp.size ≤ 1000; decide, by show emp.size ≤ 1000; decide⟩
    | some y =>
      obtain ⟨q1, q2, _⟩ := tellO_some e
      have hw := (hok y q1).2.2.2.1
      rw [if_pos q2] at hw
      have h1 := hw.1.1.2
      have h2 := hw.2.1.1.2
      exact ⟨by show y.2.user.size ≤ 1000; omega, by show y.2.name.size ≤ 1000; omega⟩

set_option maxRecDepth 100000 in
set_option maxHeartbeats 8000000 in
theorem implStateOf_any (l : List Itm) (hl : l.length ≤ 1048576) : StateC 19 l := by
  intro v w h
  have hI := Lib.hid (fun X hX => implItemsOk_any l v X (h.later (w' := X) hX) (by omega))
  have HL : Hid (∀ X, Below w.heap.size w X → Rows' itE X v l) := fun X hX => h.later hX
  obtain ⟨ad, cap, rfl, _⟩ := h.items
  clear h
  have k0 := belNew w (.cells #[.slice none 0 0] 35)
  have B0 := Box.new w #[.slice none 0 0] 35
  have hs0 : w.heap.size < (w.alloc (.cells #[.slice none 0 0] 35)).heap.size := by simp
  go_enter Tryz.func19, Tryz.ntmps19
  go_upto_region 1 with fail
  generalize w.alloc (.cells #[.slice none 0 0] 35) = w0 at k0 B0 hs0 ⊢
  obtain ⟨g, hg⟩ : ∃ g, w.heap.size = g := ⟨_, rfl⟩
  rw [hg] at B0 hs0
  have HG := Lib.hid hg
  rw [hg]
  clear hg
  go_wp2_with fail
  refine (hI.out _ k0).mono ?_
  rintro e w1 ⟨rfl, k1⟩
  have B1 := B0.later k1
  have j1 := k0.trans (k1.mono k0.size)
  have hs1 : g < w1.heap.size := B1.lt
  clear hI B0 k1 hs0
  by_cases hok : itemsOk l
  case neg =>
    rw [decide_eq_false hok]
    have HS : Hid (stateL l = []) := if_neg hok
    have u0 := B1.cell 0 _ rfl
    have f0 := B1.loose 0
    have z0 := (B1.set 0 (.slice none 0 0)).cell 0 _ rfl
    have jZ := Lib.hid (j1.setCell (p := ⟨g, 0, none⟩) (by rw [HG.out]; exact Nat.le_refl _) (.slice none 0 0))
    clear hok B1 j1
    go_wp2
    refine bodyPost_ret (v := .agg #[.slice none 0 0]) (by simp [results, Tryz.results19, go_sem, z0]) rfl ⟨.slice none 0 0, [], rfl, ?_, jZ.out⟩
    rw [HS.out]
    refine ⟨⟨World.ownsRow_nil _ _ _ _, Below.refl _ _, jZ.out.size⟩, rfl, fun j h b h1 => (by cases h1), fun j h h1 => (by cases h1), fun i j h h' h1 => (by cases h1)⟩
  rw [decide_eq_true hok]
  have HS : Hid (stateL l = tellAll l) := if_pos hok
  have HOK := Lib.hid (show ∀ x ∈ l, itOk x from hok.1)
  have hl2 : l.length ≤ 200 := hok.2.2
  clear hok hl
  go_wp2_with fail
  refine (toldBoxes_any l _ w1 (HL.out _ j1) HOK.out (by omega)).mono ?_
  rintro e w2 ⟨b, P0, rfl, hb2, T2, k2⟩
  have B2 := B1.later k2
  have j2 := j1.trans (k2.mono j1.size)
  clear B1
  go_wp2_with fail
  refine (deleteGone_any l (toldT l) P0 b l.length _ w2 T2 (fun X hX => HL.out X (j2.trans (hX.mono (Nat.le_trans j1.size hb2)))) HOK.out (by omega)).mono ?_
  rintro e w3 ⟨rfl, ⟨P, T3⟩, k3⟩
  have T3 : ToldO b l.length w3 (finT l) P := T3
  have B3 := B2.under k3 (by omega)
  have j3 : Below w.heap.size w w3 := j2.trans (k3.mono (Nat.le_trans j1.size hb2))
  have hb3 : w1.heap.size ≤ b := hb2
  clear T2 B2 k2 k3 j2 hb2
  obtain ⟨kl, hkl, hlen⟩ := T3.map.len (t := 83) Tryz.underlying83 3
  have HT3 := Lib.hid T3
  have HB3 := Lib.hid B3
  have HJ3 := Lib.hid j3
  have HJ1 := Lib.hid j1
  clear T3 B3 j3 j1
  go_wp2_with (first | (at_make; refine wpList_make_cap rfl _ _ hdE rfl .i64 .i64 _ kl rfl rfl rfl (by show 73 * kl ≤ _; omega) ?_; intro w4 hr4 hg4) | (at_range; refine wpList_range_is rfl _ _ rfl iK ptrV _ Tryz.underlying83 b l.length (fun v => (P v).map (fun a => a + 2)) rfl (HT3.out.map.kept hg4 (by simp)) ?_; intro w5 cnt0 hc0 hgo0 hg5 hs5))
  go_frame
  have hlow : b < w3.heap.size := HT3.out.map.lt
  have b34 : Below w3.heap.size w3 w5 := ⟨hg5.os.trans hg4.os, hg5.tape.trans hg4.tape, hg5.output.trans hg4.output, Nat.le_trans hg4.size hg5.size, fun k hk => (hg5.block k (Nat.lt_of_lt_of_le hk hg4.size) (by simp)).trans (hg4.block k hk (by simp))⟩
  have I0 : BxG w w3.heap.size b w4.heap.size l.length l P (.slice (some ⟨w3.heap.size, 0, none⟩) 0 kl) [] [] (fun v => ((P v).map (fun a => a + 2)).isSome) cnt0 w5 := by
    refine ⟨⟨(hr4.grown hg5 (.inr (by simp [Value.ownBlock])) (fun k hk => by cases hk)).here, rfl, fun j h b h1 => (by cases h1), fun j h h1 => (by cases h1), fun i j h h' h1 => (by cases h1)⟩, ⟨_, rfl⟩, hgo0, HT3.out.later b34, ⟨fun c => ⟨fun h => (by cases h), ?_⟩, by simp⟩, by simpa using hc0, HJ3.out.trans (b34.mono HJ3.out.size), HJ3.out.size, hr4.le, hlow, fun v a ha => ?_⟩
    · rintro ⟨v, h1, h2, _⟩
      obtain ⟨t, ht, _⟩ := (fin_valid HOK.out v).2 h1
      have hd := HT3.out.dom v
      rw [ht] at hd
      dsimp only at h2
      cases hp : P v with
      | none => rw [hp] at hd; cases hd
      | some a => rw [hp] at h2; cases h2
    · obtain ⟨t, ht⟩ := HT3.out.get ha
      exact (HT3.out.at' v a t ha ht).box.lt
  have BX5 : Hid (∀ X, Below w3.heap.size w5 X → Box X g #[.slice none 0 0] 35) := fun X hX => (HB3.out.later b34).under hX HB3.out.lt
  have HGB : Hid (g < w3.heap.size) := HB3.out.lt
  generalize w4.heap.size = r at I0 ⊢
  generalize w3.heap.size = B at I0 BX5 HGB ⊢
  have HBB : Hid (w.heap.size ≤ B) := I0.hB
  clear hr4 hg4 hgo0 hg5 hs5 hc0 hlen b34 HT3 HB3 HJ3 HJ1 hlow
  go_loopw [4] (fun lv wr => ∃ (bs : List Bx) (hs : List BxH) (todo : Int → Bool) (cnt : Nat), BxG w B b r l.length l P lv bs hs todo cnt wr ∧ Below B w5 wr) (fun _ wr => wr.rangeLeft b r)
  case atStart => exact ⟨_, _, _, _, I0, Below.refl _ _⟩
  case round =>
    clear I0
    obtain ⟨bs, hs, todo, cnt, I, hbr⟩ := hrel
    obtain ⟨pl, cl, rfl⟩ := I.sto.row.form
    have HI := Lib.hid I
    clear I
    go_wp2_with (at_next; refine wpList_next_is rfl _ rfl iK ptrV ptrV_inj b r l.length (fun v => (P v).map (fun a => a + 2)) todo cnt rfl HI.out.go ?_ ?_)
    · intro hdone
      have HDN := Lib.hid hdone
      clear hdone
      obtain ⟨gk, hgk⟩ : ∃ gk : Nat, pl = some ⟨gk, 0, none⟩ := by
        obtain ⟨kk, hkk⟩ := HI.out.some'
        rcases HI.out.sto.row.own.2 with ⟨e, _⟩ | ⟨g, cap, cur, e, _⟩
        · rw [e] at hkk; cases hkk
        · simp only [Value.slice.injEq] at e; exact ⟨g, e.1⟩
      subst hgk
      have HSO := Lib.hid (sortBoxes_any bs hs B gk cl _ HI.out.sto (by have := HI.out.len; have := HI.out.sto.len; omega))
      have HGK : Hid (B ≤ gk) := (HI.out.sto.row.own.lt gk rfl).1
      go_wp2_with fail
      refine HSO.out.mono ?_
      rintro e w6 ⟨rfl, bs6, hs6, hp6, hs6', S6, g6⟩
      have b6 : Below B w5 w6 := hbr.grown g6 HI.out.sto.row.le (fun k hk => by have := Option.some.inj hk; have := HGK.out; omega)
      have B6 := BX5.out _ b6
      have j6 : Below w.heap.size w w6 := HI.out.bel.grown g6 HI.out.bel.size (fun k hk => by have := Option.some.inj hk; have := HGK.out; have := HBB.out; omega)
      have HEQ : Hid (bs6 = tellAll l) := by
        refine rise_same (fun c => c.valid) ?_ (boxes_up l) (fun c => ?_)
        · have hnd : (bs6.map (·.valid)).Nodup := (hp6.map (·.valid)).nodup_iff.2 HI.out.coll.2
          have hnd' : bs6.Pairwise (fun x y => x.valid ≠ y.valid) := List.pairwise_map.1 hnd
          exact (hs6'.and hnd').imp (fun {x y} h => by have := h.1; have := h.2; omega)
        · rw [hp6.mem_iff, HI.out.coll.1 c]
          unfold tellAll
          rw [List.mem_map]
          constructor
          · rintro ⟨v, h1, _, h3⟩; exact ⟨v, h1, h3.symm⟩
          · rintro ⟨v, h1, h3⟩
            refine ⟨v, h1, HDN.out v ?_, h3.symm⟩
            obtain ⟨⟨x, hx, _, hv⟩, _⟩ := mem_valids.1 h1
            have := (HOK.out x hx).2.2.1
            exact wf_of (by omega) (by omega)
      have HSX := Lib.hid (S6.other HGB.out 0 (.slice (some ⟨gk, 0, none⟩) hs.length cl))
      have u0 := B6.cell 0 _ rfl
      have f0 := B6.loose 0
      have z0 := (B6.set 0 (.slice (some ⟨gk, 0, none⟩) hs.length cl)).cell 0 _ rfl
      have HJ6 := Lib.hid (j6.setCell (p := ⟨g, 0, none⟩) (by rw [HG.out]; exact Nat.le_refl _) (.slice (some ⟨gk, 0, none⟩) hs.length cl))
      clear S6 B6 b6 j6 g6 hp6 hs6' HSO
      go_wp2
      refine bodyPost_ret (v := .agg #[.slice (some ⟨gk, 0, none⟩) hs.length cl]) (by simp [results, Tryz.results19, go_sem, z0]) rfl ⟨_, hs6, rfl, ?_, HJ6.out⟩
      rw [HS.out, ← HEQ.out]
      exact HSX.out.lower HBB.out
    · intro vd c wN cntN hku htodo a ha hc hgoN hcntN hgN hsN hen
      subst hc
      replace hen : (Instr.entry (.pointer (some ⟨r, 0, none⟩))).run Tryz.prog wN = .ok (.tuple #[.int .i64 vd, .pointer (some ⟨a + 2, 0, none⟩)]) wN := hen
      rw [show iK.val vd = .int .i64 vd from rfl, show ptrV (a + 2) = .pointer (some ⟨a + 2, 0, none⟩) from rfl]
      obtain ⟨t, ht⟩ := HI.out.told.get ha
      have GN : BxN w B b r l.length l P (.slice pl hs.length cl) bs hs (fun y => todo y && !decide (y = vd)) cntN wN := BxN.of HI.out hgN hgoN
      have hbN : Below B w5 wN := hbr.grown hgN HI.out.sto.row.le (fun k hk => by have := Option.some.inj hk; have := HI.out.hr; omega)
      have TN := GN.told.at' vd a t ha ht
      obtain ⟨p0, _⟩ := TN.box.twelve
      have HTD := Lib.hid htodo
      have HA := Lib.hid ha
      have HTT := Lib.hid ht
      have HCN := Lib.hid hcntN
      have HGN := Lib.hid GN
      have HTN := Lib.hid TN
      have HBN := Lib.hid hbN
      clear hku htodo ha ht hcntN hgoN hgN hsN GN TN hbN hbr
      by_cases hnm : 0 < t.named.1
      · have HVM : Hid (vd ∈ upOf (validK l) l) := (fin_valid HOK.out vd).1 ⟨t, HTT.out, hnm⟩
        have hsm := fin_small HOK.out HTT.out
        have HBO := Lib.hid (box_any t a l.length wN HTN.out (by omega) hsm.1 hsm.2.1 hsm.2.2)
        clear hsm
        have hhl : hs.length ≤ 1000 := by have := HI.out.len; have := HI.out.sto.len; omega
        go_wp2_with (first
          | (go_at_call 41; refine HBO.out.mono ?_; rintro e w7 ⟨pm, cm, ms, rfl, RM, k7, hm1, hm2, hm3⟩; have HLT := RBuf.lit1 hdE w7 ⟨t.named.2.valid, t.named.2.user, t.named.2.name, t.next, pm, ms.length, cm⟩; have HRW := ((HGN.out.later k7).later (belNew w7 (.cells (hdE.f ⟨t.named.2.valid, t.named.2.user, t.named.2.name, t.next, pm, ms.length, cm⟩).toArray hdE.ty))); have HMB := Lib.hid (box_fin HOK.out HTT.out hnm hm1 hm2); have HLT' := Lib.hid HLT; have HRW' := Lib.hid HRW; have HRM := Lib.hid RM; clear HLT HRW RM hm1 hm2)
          | (at_builtin; refine wpList_append_rows rfl _ _ hdE rfl B _ hs rfl HRW'.out.sto.row w7.heap.size _ [⟨t.named.2.valid, t.named.2.user, t.named.2.name, t.next, pm, ms.length, cm⟩] rfl HLT'.out (by show _ * 73 ≤ _; simp only [List.length_cons, List.length_nil]; omega) ?_; intro v8 w8 r8 g8 at8))
        have hk8 := belNew w7 (.cells (hdE.f ⟨t.named.2.valid, t.named.2.user, t.named.2.name, t.next, pm, ms.length, cm⟩).toArray hdE.ty)
        have hBN : B ≤ wN.heap.size := HGN.out.sto.row.le
        have hmm := (HRM.out.here' hk8).lower hBN
        have HMM : ms = (boxK l vd).mails := by rw [← HMB.out]
        have HFIN := HRW'.out.push HI.out HVM.out HTD.out HCN.out ⟨t.named.2.valid, t.named.2.user, t.named.2.name, t.next, pm, ms.length, cm⟩ (by rw [← HMB.out]; exact ⟨rfl, rfl, rfl, rfl⟩) (by rw [← HMM]; exact hmm) (fun k hk j hj e => by
          have h1 := (HRM.out.own.lt k hk).1
          have h2 : j < wN.heap.size := by
            rcases hj with hj | ⟨i, y, hi, hj⟩
            · exact (HGN.out.sto.where'.1 j hj).2
            · exact (HGN.out.sto.where'.2 i y hi j hj).2
          omega) r8 g8 at8
        go_roundw
        case rel => exact ⟨_, _, _, _, HFIN.1, HBN.out.trans ((k7.trans (hk8.mono k7.size)).mono hBN |>.trans HFIN.2)⟩
        case measure =>
          have h1 := HFIN.1.go.left_eq
          have h2 := HI.out.go.left_eq
          have := HCN.out
          omega
      · have HVM : Hid (vd ∉ upOf (validK l) l) := fun c => by
          obtain ⟨t', h1, h2⟩ := (fin_valid HOK.out vd).2 c
          rw [HTT.out] at h1
          cases h1
          exact hnm h2
        go_wp2
        go_roundw
        case rel => exact ⟨_, _, _, _, HGN.out.skip HI.out HVM.out HCN.out, HBN.out⟩
        case measure =>
          have h1 := HGN.out.go.left_eq
          have h2 := HI.out.go.left_eq
          have := HCN.out
          omega

end Go.Proofs.YtgcnebepklelpaaGreat

/- What a store tells: StateNow of both. -/
namespace Go.Proofs.YtgcnebepklelpaaGreat
open Go.RowKit

theorem keptOf {B T : Nat} {w w' : World} {v : Value} {bs : List Bx} {hs : List BxH} (hb : Below B w w') (hk : ∀ q, q < w.heap.size → v.ownBlock ≠ some q → (∀ (j : Nat) (x : BxH), hs[j]? = some x → x.mv.ownBlock ≠ some q) → w'.heap[q]? = w.heap[q]?) (P : BOwn B T w v bs hs) : Kept B T w w' :=
  ⟨hb.os, hb.tape, hb.output, hb.size, fun q hq ho => hk q hq (fun e => by have := P.row q e; have := (P.own.where'.1 q e).1; omega) (fun j x hj e => by have := P.its j x hj q e; have := (P.own.where'.2 j x hj q e).1; omega)⟩
theorem So.lean_its (S : So) (hL : S.lean) : S.g.used.length + gIts S.g.used ≤ 1048576 := by have := hL.1.2.1; omega
theorem So.its_len (S : So) (hL : S.lean) : (its S.g.used).length ≤ 1048576 := by have := S.lean_its hL; rw [Go.Proofs.YtgcnebepklelpaaGreat.its_len]; omega
theorem its_mem : ∀ {u : List Sg} {x : Itm}, x ∈ its u → ∃ b ∈ u, x ∈ b.items
  | s :: u, x, h => by
    rcases List.mem_append.1 (show x ∈ s.items ++ its u from h) with h | h
    · exact ⟨s, by simp, h⟩
    · obtain ⟨b, hb, hx⟩ := its_mem h
      exact ⟨b, by simp [hb], hx⟩
theorem its_texts (S : So) (hL : S.lean) : ∀ x ∈ its S.g.used, x.2.user.size ≤ 1048576 ∧ x.2.name.size ≤ 1048576 ∧ x.2.text.size ≤ 1048576 := fun x hx => by
  obtain ⟨b, hb, h⟩ := its_mem hx
  exact S.g.lean_texts hL.1 b hb x h

set_option maxRecDepth 100000 in
set_option maxHeartbeats 2000000 in
theorem specStateNow_any (S : So) (v : Value) (w : World) (h : SoRd w v S) (hL : S.lean) :
    Calls Tryz.prog 5 #[v] w fun e w' => ∃ bv, e = .returned (.agg #[bv]) ∧ SnO w.heap.size w'.heap.size w' bv (stateL (its S.g.used)) ∧ Below w.heap.size w w' := by
  obtain ⟨va, vb, vu, vf, rfl, ha, hb⟩ := h
  have b0 : Below w.heap.size w ((w.alloc (.cells #[va, vb, .int .i64 S.g.segs, vu, .int .i64 S.g.ng, .int .i64 S.g.ns, .int .i64 S.g.st, .int .i64 S.g.nv, vf] 44)).alloc (.cells #[.slice none 0 0] 35)) := ((Below.refl _ _).alloc (Nat.le_refl _) _).alloc (by simp) _
  have q1 := Box.new (w.alloc (.cells #[va, vb, .int .i64 S.g.segs, vu, .int .i64 S.g.ng, .int .i64 S.g.ns, .int .i64 S.g.st, .int .i64 S.g.nv, vf] 44)) #[.slice none 0 0] 35
  rw [show (w.alloc (.cells #[va, vb, .int .i64 S.g.segs, vu, .int .i64 S.g.ng, .int .i64 S.g.ns, .int .i64 S.g.st, .int .i64 S.g.nv, vf] 44)).heap.size = w.heap.size + 1 by simp] at q1
  have HI := Lib.hid (specItemsOf_any S.g _ _ (ha.later b0) (S.lean_its hL))
  have HS := Lib.hid (fun (v : Value) (x : World) (hx : Rows' itE x v (its S.g.used)) => specStateOf_any (its S.g.used) v x hx (by have := S.its_len hL; omega) (fun y hy => by have := its_texts S hL y hy; omega))
  have HB := Lib.hid b0
  have HQ := Lib.hid q1
  clear ha hb b0 q1 hL
  go_enter Tryz.func5, Tryz.ntmps5
  go_wp2_with fail
  generalize (w.alloc (.cells #[va, vb, .int .i64 S.g.segs, vu, .int .i64 S.g.ng, .int .i64 S.g.ns, .int .i64 S.g.st, .int .i64 S.g.nv, vf] 44)).alloc (.cells #[.slice none 0 0] 35) = W at HI HB HQ ⊢
  refine HI.out.mono ?_
  rintro e w1 ⟨v1, rfl, R1⟩
  obtain ⟨a1, c1, rfl⟩ := R1.form
  go_wp2_with fail
  refine (HS.out _ _ R1.rows).mono ?_
  rintro e w2 ⟨bv, hs, rfl, S2, k2⟩
  have k1 := R1.bel
  have q2 := (HQ.out.later k1).later k2
  have c2 := q2.cell 0 _ rfl
  have f2 := q2.loose 0
  have hlt : w.heap.size + 1 < w1.heap.size := (HQ.out.later k1).lt
  have HE : Hid (∃ bv', Ending.returned (.agg #[bv]) = .returned (.agg #[bv']) ∧ SnO w.heap.size (w2.setCell ⟨w.heap.size + 1, 0, none⟩ bv).heap.size (w2.setCell ⟨w.heap.size + 1, 0, none⟩ bv) bv' (stateL (its S.g.used)) ∧ Below w.heap.size w (w2.setCell ⟨w.heap.size + 1, 0, none⟩ bv)) := by
    have b2 := HB.out.trans ((k1.trans (k2.mono k1.size)).mono HB.out.size)
    have S3 := S2.other (g := w.heap.size + 1) hlt 0 bv
    exact ⟨bv, rfl, ⟨hs, (S3.bown.down' (by have := HB.out.size; have := k1.size; omega))⟩, b2.setCell (p := ⟨w.heap.size + 1, 0, none⟩) (by simp) bv⟩
  have z0 := (q2.set 0 bv).cell 0 _ rfl
  obtain ⟨ab, cb, rfl⟩ := S2.row.form
  clear R1 S2 k1 k2 q2
  go_wp2
  refine bodyPost_ret (v := .agg #[.slice ab hs.length cb]) (by simp [results, Tryz.results5, go_sem, z0]) rfl HE.out

set_option maxRecDepth 100000 in
set_option maxHeartbeats 2000000 in
theorem implStateNow_any (S : So) (v : Value) (w : World) (h : SoRd w v S) (hL : S.lean) :
    Calls Tryz.prog 7 #[v] w fun e w' => ∃ bv, e = .returned (.agg #[bv]) ∧ SnO w.heap.size w'.heap.size w' bv (stateL (its S.g.used)) ∧ Below w.heap.size w w' := by
  obtain ⟨va, vb, vu, vf, rfl, ha, hb⟩ := h
  have b0 : Below w.heap.size w ((w.alloc (.cells #[va, vb, .int .i64 S.g.segs, vu, .int .i64 S.g.ng, .int .i64 S.g.ns, .int .i64 S.g.st, .int .i64 S.g.nv, vf] 44)).alloc (.cells #[.slice none 0 0] 35)) := ((Below.refl _ _).alloc (Nat.le_refl _) _).alloc (by simp) _
  have q1 := Box.new (w.alloc (.cells #[va, vb, .int .i64 S.g.segs, vu, .int .i64 S.g.ng, .int .i64 S.g.ns, .int .i64 S.g.st, .int .i64 S.g.nv, vf] 44)) #[.slice none 0 0] 35
  rw [show (w.alloc (.cells #[va, vb, .int .i64 S.g.segs, vu, .int .i64 S.g.ng, .int .i64 S.g.ns, .int .i64 S.g.st, .int .i64 S.g.nv, vf] 44)).heap.size = w.heap.size + 1 by simp] at q1
  have HI := Lib.hid (implItemsOf_any S.g _ _ (ha.later b0) (S.lean_its hL) (S.g.lean_texts hL.1))
  have HS := Lib.hid (fun (v : Value) (x : World) (hx : Rows' itE x v (its S.g.used)) => implStateOf_any (its S.g.used) (S.its_len hL) v x hx)
  have HB := Lib.hid b0
  have HQ := Lib.hid q1
  clear ha hb b0 q1 hL
  go_enter Tryz.func7, Tryz.ntmps7
  go_wp2_with fail
  generalize (w.alloc (.cells #[va, vb, .int .i64 S.g.segs, vu, .int .i64 S.g.ng, .int .i64 S.g.ns, .int .i64 S.g.st, .int .i64 S.g.nv, vf] 44)).alloc (.cells #[.slice none 0 0] 35) = W at HI HB HQ ⊢
  refine HI.out.mono ?_
  rintro e w1 ⟨v1, rfl, R1⟩
  obtain ⟨a1, c1, rfl⟩ := R1.form
  go_wp2_with fail
  refine (HS.out _ _ R1.rows).mono ?_
  rintro e w2 ⟨bv, hs, rfl, S2, k2⟩
  have k1 := R1.bel
  have q2 := (HQ.out.later k1).later k2
  have c2 := q2.cell 0 _ rfl
  have f2 := q2.loose 0
  have hlt : w.heap.size + 1 < w1.heap.size := (HQ.out.later k1).lt
  have HE : Hid (∃ bv', Ending.returned (.agg #[bv]) = .returned (.agg #[bv']) ∧ SnO w.heap.size (w2.setCell ⟨w.heap.size + 1, 0, none⟩ bv).heap.size (w2.setCell ⟨w.heap.size + 1, 0, none⟩ bv) bv' (stateL (its S.g.used)) ∧ Below w.heap.size w (w2.setCell ⟨w.heap.size + 1, 0, none⟩ bv)) := by
    have b2 := HB.out.trans ((k1.trans (k2.mono k1.size)).mono HB.out.size)
    have S3 := S2.other (g := w.heap.size + 1) hlt 0 bv
    exact ⟨bv, rfl, ⟨hs, (S3.bown.down' (by have := HB.out.size; have := k1.size; omega))⟩, b2.setCell (p := ⟨w.heap.size + 1, 0, none⟩) (by simp) bv⟩
  have z0 := (q2.set 0 bv).cell 0 _ rfl
  obtain ⟨ab, cb, rfl⟩ := S2.row.form
  clear R1 S2 k1 k2 q2
  go_wp2
  refine bodyPost_ret (v := .agg #[.slice ab hs.length cb]) (by simp [results, Tryz.results7, go_sem, z0]) rfl HE.out

end Go.Proofs.YtgcnebepklelpaaGreat
