/- Texts of our own, joined. -/
import Derived.Test.YtmahicpheimnjaaJp
import Derived.Test.YtmahicpheimnjaaJg
import Derived.Test.YtmahicpheimnjaaJi
import Derived.Test.YtmahicpheimnjaaJj
import Derived.WalkSpells
import Derived.WalkSmall
import Derived.Test.YtmahicpheimnjaaJb
import Derived.Test.YtmahicpheimnjaaJn
import Derived.Test.YtmahicpheimnjaaJd
/- What records tell: the boxes in order; the program's StateOf. -/
namespace Go.Proofs.Ytmahicpheimnjaa
open Go.RowKit

/-- A row that is mixed was mixed out of what it was made of. -/
theorem perm_lift {α β : Type} (f : α → β) {m n : List β} (h : m.Perm n) : ∀ l : List α, l.map f = n → ∃ l' : List α, l'.Perm l ∧ l'.map f = m := by
  induction h with
  | nil => intro l hl; exact ⟨[], by have := List.map_eq_nil_iff.1 hl; rw [this], rfl⟩
  | cons x _ ih =>
    intro l hl
    cases l with
    | nil => cases hl
    | cons a l =>
      simp only [List.map_cons, List.cons.injEq] at hl
      obtain ⟨l', h1, h2⟩ := ih l hl.2
      exact ⟨a :: l', h1.cons a, by simp [h2, hl.1]⟩
  | swap x y _ =>
    intro l hl
    match l, hl with
    | a :: b :: l, hl =>
      simp only [List.map_cons, List.cons.injEq] at hl
      exact ⟨b :: a :: l, List.Perm.swap _ _ _, by simp [hl.1, hl.2.1, hl.2.2]⟩
  | trans _ _ ih1 ih2 =>
    intro l hl
    obtain ⟨l1, h1, h2⟩ := ih2 l hl
    obtain ⟨l2, h3, h4⟩ := ih1 l1 h2
    exact ⟨l2, h3.trans h1, h4⟩

/-- Boxes mixed in their row. -/
theorem StO.mixed {B : Nat} {w w' : World} {g n cap : Nat} {bs : List Bx} {hs hs' : List BxH} (h : StO B w (.slice (some ⟨g, 0, none⟩) n cap) bs hs) (hp : hs'.Perm hs) (hr : RBuf hdE B w' w' (.slice (some ⟨g, 0, none⟩) n cap) hs') (hg : w.grownBy w' (some g)) :
    ∃ bs', bs'.Perm bs ∧ StO B w' (.slice (some ⟨g, 0, none⟩) n cap) bs' hs' := by
  have hz : (hs.zip bs).map Prod.fst = hs := by rw [List.map_fst_zip]; rw [h.len]; exact Nat.le_refl _
  obtain ⟨ps, hps, hfst⟩ := perm_lift Prod.fst hp (hs.zip bs) hz
  have hsnd : (ps.map Prod.snd).Perm bs := by
    have := hps.map Prod.snd
    rwa [List.map_snd_zip (by rw [h.len]; exact Nat.le_refl _)] at this
  have hmem : ∀ {x : BxH} {b : Bx}, (x, b) ∈ ps → ∃ j, hs[j]? = some x ∧ bs[j]? = some b := fun {x b} hm => by
    have := hps.mem_iff.1 hm
    obtain ⟨j, hj, e⟩ := List.getElem_of_mem this
    rw [List.getElem_zip] at e
    have hj' : j < hs.length ∧ j < bs.length := by rw [List.length_zip] at hj; omega
    cases e
    exact ⟨j, List.getElem?_eq_getElem hj'.1, List.getElem?_eq_getElem hj'.2⟩
  have hat : ∀ {j : Nat} {x : BxH} {b : Bx}, hs'[j]? = some x → (ps.map Prod.snd)[j]? = some b → (x, b) ∈ ps := fun {j x b} h1 h2 => by
    rw [← hfst, List.getElem?_map] at h1
    rw [List.getElem?_map] at h2
    cases e : ps[j]? with
    | none => rw [e] at h1; cases h1
    | some p =>
      rw [e] at h1 h2
      simp at h1 h2
      obtain ⟨p1, p2⟩ := p
      simp at h1 h2
      subst h1 h2
      exact List.mem_of_getElem? e
  have hpw : hs.Pairwise (fun x y => ∀ k, x.mv.ownBlock = some k → y.mv.ownBlock ≠ some k) := by
    rw [List.pairwise_iff_getElem]
    intro i j hi hj hij k hk
    exact h.apart i j _ _ (List.getElem?_eq_getElem hi) (List.getElem?_eq_getElem hj) (by omega) k hk
  have hpw' : hs'.Pairwise (fun x y => ∀ k, x.mv.ownBlock = some k → y.mv.ownBlock ≠ some k) := (hp.pairwise_iff (fun {x y} hxy k hk hk' => hxy k hk' hk)).2 hpw
  refine ⟨ps.map Prod.snd, hsnd, hr, by rw [← hfst]; simp, fun j x b h1 h2 => ?_, fun j x h1 k hk => ?_, fun i j x y h1 h2 hij k hk => ?_⟩
  · obtain ⟨i, e1, e2⟩ := hmem (hat h1 h2)
    refine ⟨(h.at' i x b e1 e2).1, (h.at' i x b e1 e2).2.shift hg ?_⟩
    cases hv : x.mv.ownBlock with
    | none => exact .inl rfl
    | some k => exact .inr (fun e => h.far i x e1 k hv (by rw [← Option.some.inj e]; rfl))
  · obtain ⟨i, hi, e⟩ := List.getElem_of_mem (hp.mem_iff.1 (List.mem_of_getElem? h1))
    exact h.far i x (by rw [List.getElem?_eq_getElem hi, e]) k hk
  · obtain ⟨hi, rfl⟩ := List.getElem?_eq_some_iff.1 h1
    obtain ⟨hj, rfl⟩ := List.getElem?_eq_some_iff.1 h2
    rw [List.pairwise_iff_getElem] at hpw'
    rcases Nat.lt_or_gt_of_ne hij with c | c
    · exact hpw' i j hi hj c k hk
    · exact fun e => hpw' j i hj hi c k e hk

set_option maxRecDepth 100000 in
set_option maxHeartbeats 1000000 in
theorem byValid_any (x y : BxH) (W : World) : Calls Try.prog 32 #[.agg #[.int .i64 x.valid, .string x.user, .string x.name, .int .i64 x.next, .slice x.a x.n x.c], .agg #[.int .i64 y.valid, .string y.user, .string y.name, .int .i64 y.next, .slice y.a y.n y.c]] W fun e w' => e = .returned (.int .i64 (Lib.compareInt x.valid y.valid)) ∧ ∃ q os', w' = Sort.grow (W.drewN q) os' := by
  generalize hr : Lib.compareInt x.valid y.valid = r
  have hcon := fun W' => compare_any x.valid y.valid W'
  rw [hr] at hcon
  clear hr
  go_enter Try.func32, Try.ntmps32
  go_wp2_with (go_at_call 59; refine (hcon _).mono ?_; rintro e w' ⟨rfl, rfl⟩)
  go_ret
  exact ⟨rfl, 0, _, by rw [Sort.alloc_eq_grow, Sort.alloc_eq_grow, Sort.grow_grow]; rfl⟩
theorem ltValid (x y : BxH) : ltOf (fun x y : BxH => Lib.compareInt x.valid y.valid) x y = decide (x.valid < y.valid) := by
  unfold ltOf Lib.compareInt
  by_cases h1 : x.valid < y.valid
  · simp [h1]
  · by_cases h2 : y.valid < x.valid <;> simp [h1, h2]
theorem swoValid : Sort.SWO (ltOf fun x y : BxH => Lib.compareInt x.valid y.valid) where
  irrefl x := by rw [ltValid]; simp
  trans x y z h1 h2 := by rw [ltValid] at *; simp at *; omega
  ntrans x y z h1 h2 := by rw [ltValid] at *; simp at *; omega

set_option maxRecDepth 100000 in
set_option maxHeartbeats 1000000 in
theorem sortBoxes_any (bs : List Bx) (hs : List BxH) (B g cap : Nat) (w : World) (h : StO B w (.slice (some ⟨g, 0, none⟩) hs.length cap) bs hs) (hl : hs.length ≤ 1000000) :
    Calls Try.prog 31 #[.slice (some ⟨g, 0, none⟩) hs.length cap, .func (.func 32) #[] #[]] w fun e w' => e = .returned (.tuple #[]) ∧ ∃ bs' hs', bs'.Perm bs ∧ bs'.Pairwise (fun x y => ¬ y.valid < x.valid) ∧ StO B w' (.slice (some ⟨g, 0, none⟩) hs.length cap) bs' hs' ∧ w.grownBy w' (some g) := by
  have eg : ∀ args w, (callFunc 32 args).run Try.prog w = .ok (.enter 32 args) w := enters_of Try.func32 (by kernel_rfl) rfl
  have hcmp : CmpLays Try.prog 32 #[] hdE.f 5 (fun x y : BxH => Lib.compareInt x.valid y.valid) g 0 hs.toArray.size w := fun _ _ _ _ x y => byValid_any x y _
  have hcon := AnyQ.slices_SortFunc Try.sortBox 5 Try.isAgg32 Try.sizeOf32 hdE.f (fun _ => rfl) hdE.one (fun x y : BxH => Lib.compareInt x.valid y.valid) swoValid 32 #[] g 0 cap hs.toArray w eg hcmp h.row.holdsK (h.row.own.lt g rfl).2 (by simp; omega)
  have hcon : Calls Try.prog 31 #[.slice (some ⟨g, 0, none⟩) hs.length cap, .func (.func 32) #[] #[]] w _ := hcon
  refine hcon.mono ?_
  rintro e w' ⟨rfl, d', n, os, hp, hs', rfl⟩
  have hp' := perm_of hp
  have hso := sorted_of hp.1 hs'
  have hlen : d'.toList.length = hs.length := hp'.length_eq
  have hg := sorted_grown hdE w g n d' os
  have hr : RBuf hdE B (sortWorldK hdE.f hdE.sz w g 0 n d' os) (sortWorldK hdE.f hdE.sz w g 0 n d' os) (.slice (some ⟨g, 0, none⟩) hs.length cap) d'.toList := by
    have := (h.row.sorted hlen n os).here
    rwa [Array.toArray_toList] at this
  obtain ⟨bs', hb1, hb2⟩ := h.mixed hp' hr hg
  refine ⟨rfl, bs', d'.toList, hb1, ?_, hb2, hg⟩
  rw [List.pairwise_iff_getElem]
  intro i j hi hj hij
  rw [List.pairwise_iff_getElem] at hso
  have hi' : i < d'.toList.length := by rw [hb2.len]; exact hi
  have hj' : j < d'.toList.length := by rw [hb2.len]; exact hj
  have := hso i j hi' hj' hij
  rw [ltValid] at this
  have e1 := (hb2.at' i _ _ (List.getElem?_eq_getElem hi') (List.getElem?_eq_getElem hi)).1.1
  have e2 := (hb2.at' j _ _ (List.getElem?_eq_getElem hj') (List.getElem?_eq_getElem hj)).1.1
  rw [← e1, ← e2]
  simpa using this

/-- The boxes that came so far. -/
def CollB (l : List Itm) (todo : Int → Bool) (bs : List Bx) : Prop := (∀ c, c ∈ bs ↔ ∃ v, v ∈ upOf (validK l) l ∧ todo v = false ∧ c = boxK l v) ∧ (bs.map (·.valid)).Nodup
theorem CollB.step {l : List Itm} {todo : Int → Bool} {bs : List Bx} (h : CollB l todo bs) {v : Int} (hv : todo v = true) (hm : v ∈ upOf (validK l) l) : CollB l (fun y => todo y && !decide (y = v)) (bs ++ [boxK l v]) := by
  have hn : ∀ c ∈ bs, c.valid ≠ v := fun c hc e => by
    obtain ⟨u, _, h2, h3⟩ := (h.1 c).1 hc
    have : u = v := by rw [h3] at e; exact e
    rw [this, hv] at h2
    cases h2
  refine ⟨fun c => ?_, ?_⟩
  · rw [List.mem_append, List.mem_singleton]
    constructor
    · rintro (hc | rfl)
      · obtain ⟨u, h1, h2, h3⟩ := (h.1 c).1 hc
        exact ⟨u, h1, by simp [h2], h3⟩
      · exact ⟨v, hm, by simp, rfl⟩
    · rintro ⟨u, h1, h2, h3⟩
      by_cases e : u = v
      · subst e; exact .inr h3
      · exact .inl ((h.1 c).2 ⟨u, h1, by simpa [e] using h2, h3⟩)
  · rw [List.map_append, List.nodup_append]
    refine ⟨h.2, by simp, fun a ha b hb => ?_⟩
    obtain ⟨c, hc, rfl⟩ := List.mem_map.1 ha
    simp at hb
    rw [hb]
    exact hn c hc
theorem CollB.skip {l : List Itm} {todo : Int → Bool} {bs : List Bx} (h : CollB l todo bs) {v : Int} (hm : v ∉ upOf (validK l) l) : CollB l (fun y => todo y && !decide (y = v)) bs := by
  refine ⟨fun c => ?_, h.2⟩
  rw [h.1 c]
  constructor
  · rintro ⟨u, h1, h2, h3⟩; exact ⟨u, h1, by simp [h2], h3⟩
  · rintro ⟨u, h1, h2, h3⟩
    by_cases e : u = v
    · subst e; exact absurd h1 hm
    · exact ⟨u, h1, by simpa [e] using h2, h3⟩

/-- What the loop over the boxes keeps. -/
structure BxG (w : World) (B b r n : Nat) (l : List Itm) (P : Int → Option Nat) (lv : Value) (bs : List Bx) (hs : List BxH) (todo : Int → Bool) (cnt : Nat) (X : World) : Prop where
  sto : StO B X lv bs hs
  some' : ∃ k, lv.ownBlock = some k
  go : MapGo iK ptrV X b r n (fun v => (P v).map (fun a => a + 2)) todo cnt
  told : ToldO b n X (finT l) P
  coll : CollB l todo bs
  len : bs.length + cnt ≤ n
  bel : Below w.heap.size w X
  hB : w.heap.size ≤ B
  hr : B ≤ r
  hb : b < B
  top : ∀ v a, P v = some a → a + 2 < B

theorem ToldO.under {b n B : Nat} {w w' : World} {T : Int → Option Tb} {P : Int → Option Nat} (h : ToldO b n w T P) (hb : Below B w w') (h1 : b < B) (h2 : ∀ v a, P v = some a → a + 2 < B) : ToldO b n w' T P :=
  ⟨h.map.same (hb.block b h1), h.dom, fun v a t e1 e2 => by have := h2 v a e1; exact (h.at' v a t e1 e2).same (hb.block a (by omega)) (hb.block (a + 1) (by omega)) (hb.block (a + 2) this), h.low, h.apart⟩
/-- .. while an entry is at hand. -/
structure BxN (w : World) (B b r n : Nat) (l : List Itm) (P : Int → Option Nat) (lv : Value) (bs : List Bx) (hs : List BxH) (todo : Int → Bool) (cnt : Nat) (X : World) : Prop where
  sto : StO B X lv bs hs
  go : MapGo iK ptrV X b r n (fun v => (P v).map (fun a => a + 2)) todo cnt
  told : ToldO b n X (finT l) P
  bel : Below w.heap.size w X
theorem BxN.later {w : World} {B b r n : Nat} {l : List Itm} {P : Int → Option Nat} {lv : Value} {bs : List Bx} {hs : List BxH} {todo : Int → Bool} {cnt : Nat} {X Y : World} (h : BxN w B b r n l P lv bs hs todo cnt X) (hb : Below X.heap.size X Y) : BxN w B b r n l P lv bs hs todo cnt Y :=
  ⟨h.sto.later hb, h.go.later hb, h.told.later hb, h.bel.trans (hb.mono h.bel.size)⟩
theorem BxN.of {w : World} {B b r n : Nat} {l : List Itm} {P : Int → Option Nat} {lv : Value} {bs : List Bx} {hs : List BxH} {todo todo' : Int → Bool} {cnt cnt' : Nat} {X Y : World} (h : BxG w B b r n l P lv bs hs todo cnt X) (hg : X.grownBy Y (some r)) (hgo : MapGo iK ptrV Y b r n (fun v => (P v).map (fun a => a + 2)) todo' cnt') : BxN w B b r n l P lv bs hs todo' cnt' Y := by
  have hB : Below B X Y := (Below.refl B X).grown hg h.sto.row.le (fun k hk => by have := Option.some.inj hk; have := h.hr; omega)
  refine ⟨h.sto.shift hg (fun k hk => ?_), hgo, h.told.under hB h.hb h.top, h.bel.grown hg h.bel.size (fun k hk => by have := Option.some.inj hk; have := h.hr; have := h.hB; omega)⟩
  have hk' : k = r := (Option.some.inj hk).symm
  subst hk'
  refine ⟨fun e => h.go.notRow h.sto.row e.symm, fun j x hj e => ?_⟩
  have hl : j < hs.length := (List.getElem?_eq_some_iff.1 hj).1
  have hb2 : bs[j]? = some (bs[j]'(by rw [← h.sto.len]; exact hl)) := List.getElem?_eq_getElem _
  exact h.go.notRow (h.sto.at' j x _ hj hb2).2 e.symm
theorem BxN.skip {w : World} {B b r n : Nat} {l : List Itm} {P : Int → Option Nat} {lv : Value} {bs : List Bx} {hs : List BxH} {todo : Int → Bool} {cnt cnt' : Nat} {X Y : World} {v : Int} (h : BxN w B b r n l P lv bs hs (fun y => todo y && !decide (y = v)) cnt' Y) (h0 : BxG w B b r n l P lv bs hs todo cnt X) (hv : v ∉ upOf (validK l) l) (hc : cnt' < cnt) : BxG w B b r n l P lv bs hs (fun y => todo y && !decide (y = v)) cnt' Y :=
  ⟨h.sto, h0.some', h.go, h.told, h0.coll.skip hv, by have := h0.len; omega, h.bel, h0.hB, h0.hr, h0.hb, h0.top⟩
theorem BxN.push {w : World} {B b r n : Nat} {l : List Itm} {P : Int → Option Nat} {lv lv' : Value} {bs : List Bx} {hs : List BxH} {todo : Int → Bool} {cnt cnt' : Nat} {X Y Z : World} {v : Int} (h : BxN w B b r n l P lv bs hs (fun y => todo y && !decide (y = v)) cnt' Y) (h0 : BxG w B b r n l P lv bs hs todo cnt X) (hv : v ∈ upOf (validK l) l) (ht : todo v = true) (hc : cnt' < cnt)
    (x : BxH) (hx : x.valid = (boxK l v).valid ∧ x.user = (boxK l v).user ∧ x.name = (boxK l v).name ∧ x.next = (boxK l v).next) (hm : RBuf mlE B Y Y x.mv (boxK l v).mails) (hf : ∀ k, x.mv.ownBlock = some k → ∀ j, (lv.ownBlock = some j ∨ ∃ (i : Nat) (y : BxH), hs[i]? = some y ∧ y.mv.ownBlock = some j) → j ≠ k)
    (hr : RBuf hdE B Z Z lv' (hs ++ [x])) (hg : Y.grownBy Z lv.ownBlock) (hat : lv'.ownBlock = lv.ownBlock ∨ lv'.ownBlock = some Y.heap.size) :
    BxG w B b r n l P lv' (bs ++ [boxK l v]) (hs ++ [x]) (fun y => todo y && !decide (y = v)) cnt' Z ∧ Below B Y Z := by
  have hB : Below B Y Z := (Below.refl B Y).grown hg h.sto.row.le (fun k hk => (h.sto.row.own.lt k hk).1)
  refine ⟨⟨h.sto.push (boxK l v) x hx hm (fun k hk e => hf k hk k (.inl e) rfl) (fun j y hj k hk e => hf k e k (.inr ⟨j, y, hj, hk⟩) rfl) hr hg hat, ?_, h.go.kept hg (h.told.map.notRow h.sto.row) (h.go.notRow h.sto.row), h.told.under hB h0.hb h0.top, h0.coll.step ht hv, by have := h0.len; simp; omega, h.bel.grown hg h.bel.size (fun k hk => Nat.le_trans h0.hB (h.sto.row.own.lt k hk).1), h0.hB, h0.hr, h0.hb, h0.top⟩, hB⟩
  rcases hat with e | e
  · rw [e]; exact h0.some'
  · exact ⟨_, e⟩

/-- What the texts of a box that is told are. -/
theorem fin_small {l : List Itm} (hok : ∀ x ∈ l, itOk x) {v : Int} {t : Tb} (h : finT l v = some t) : (∀ u x, t.adds u = some x → iK.ok u ∧ x.2.text.size ≤ 1000) ∧ t.named.2.user.size ≤ 1000 ∧ t.named.2.name.size ≤ 1000 := by
  obtain ⟨rfl, _⟩ := finT_some h
  refine ⟨fun u x hx => ?_, ?_⟩
  · rw [goneB_if] at hx
    split at hx
    · cases hx
    · have hx : bestR 3 v u l = some x := hx
      obtain ⟨q1, ⟨q2, q3, q4⟩, _⟩ := bestR_some hx
      have hu := ok_uid (hok x q1).2 (by omega)
      have ht := (hok x q1).2.2.2.2.2.2
      rw [if_pos q2] at ht
      exact ⟨wf_of (by omega) (by omega), by omega⟩
  · have hn : (lessA l v (fmT l v)).named = (tellO v l).getD (0, Rc.nil) := rfl
    rw [hn]
    cases e : tellO v l with
    | none => exact ⟨by show emp.size ≤ 1000; decide, by show emp.size ≤ 1000; decide⟩
    | some y =>
      obtain ⟨q1, q2, _⟩ := tellO_some e
      have hw := (hok y q1).2.2.2.1
      rw [if_pos q2] at hw
      have h1 := hw.1.1.2
      have h2 := hw.2.1.1.2
      exact ⟨by show y.2.user.size ≤ 1000; omega, by show y.2.name.size ≤ 1000; omega⟩

set_option maxRecDepth 100000 in
set_option maxHeartbeats 8000000 in
theorem implStateOf_any (l : List Itm) (hl : l.length ≤ 1048576) : StateC 7 l := by
  intro v w h
  have hI := Lib.hid (fun X hX => implItemsOk_any l v X (h.later (w' := X) hX) (by omega))
  have HL : Hid (∀ X, Below w.heap.size w X → Rows' itE X v l) := fun X hX => h.later hX
  obtain ⟨ad, cap, rfl, _⟩ := h.items
  clear h
  have k0 := belNew w (.cells #[.slice none 0 0] 28)
  have B0 := Box.new w #[.slice none 0 0] 28
  have hs0 : w.heap.size < (w.alloc (.cells #[.slice none 0 0] 28)).heap.size := by simp
  go_enter Try.func7, Try.ntmps7
  go_upto_region 1 with fail
  generalize w.alloc (.cells #[.slice none 0 0] 28) = w0 at k0 B0 hs0 ⊢
  obtain ⟨g, hg⟩ : ∃ g, w.heap.size = g := ⟨_, rfl⟩
  rw [hg] at B0 hs0
  have HG := Lib.hid hg
  rw [hg]
  clear hg
  go_wp2_with fail
  refine (hI.out _ k0).mono ?_
  rintro e w1 ⟨rfl, k1⟩
  have B1 := B0.later k1
  have j1 := k0.trans (k1.mono k0.size)
  have hs1 : g < w1.heap.size := B1.lt
  clear hI B0 k1 hs0
  by_cases hok : itemsOk l
  case neg =>
    rw [decide_eq_false hok]
    have HS : Hid (stateL l = []) := if_neg hok
    have u0 := B1.cell 0 _ rfl
    have f0 := B1.loose 0
    have z0 := (B1.set 0 (.slice none 0 0)).cell 0 _ rfl
    have jZ := Lib.hid (j1.setCell (p := ⟨g, 0, none⟩) (by rw [HG.out]; exact Nat.le_refl _) (.slice none 0 0))
    clear hok B1 j1
    go_wp2
    refine bodyPost_ret (v := .agg #[.slice none 0 0]) (by simp [results, Try.results7, go_sem, z0]) rfl ⟨.slice none 0 0, [], rfl, ?_, jZ.out⟩
    rw [HS.out]
    refine ⟨⟨World.ownsRow_nil _ _ _ _, Below.refl _ _, jZ.out.size⟩, rfl, fun j h b h1 => (by cases h1), fun j h h1 => (by cases h1), fun i j h h' h1 => (by cases h1)⟩
  rw [decide_eq_true hok]
  have HS : Hid (stateL l = tellAll l) := if_pos hok
  have HOK := Lib.hid (show ∀ x ∈ l, itOk x from hok.1)
  have hl2 : l.length ≤ 200 := hok.2.2
  clear hok hl
  go_wp2_with fail
  refine (toldBoxes_any l _ w1 (HL.out _ j1) HOK.out (by omega)).mono ?_
  rintro e w2 ⟨b, P0, rfl, hb2, T2, k2⟩
  have B2 := B1.later k2
  have j2 := j1.trans (k2.mono j1.size)
  clear B1
  go_wp2_with fail
  refine (deleteGone_any l (toldT l) P0 b l.length _ w2 T2 (fun X hX => HL.out X (j2.trans (hX.mono (Nat.le_trans j1.size hb2)))) HOK.out (by omega)).mono ?_
  rintro e w3 ⟨rfl, ⟨P, T3⟩, k3⟩
  have T3 : ToldO b l.length w3 (finT l) P := T3
  have B3 := B2.under k3 (by omega)
  have j3 : Below w.heap.size w w3 := j2.trans (k3.mono (Nat.le_trans j1.size hb2))
  have hb3 : w1.heap.size ≤ b := hb2
  clear T2 B2 k2 k3 j2 hb2
  obtain ⟨kl, hkl, hlen⟩ := T3.map.len (t := 74) Try.underlying74 3
  have HT3 := Lib.hid T3
  have HB3 := Lib.hid B3
  have HJ3 := Lib.hid j3
  have HJ1 := Lib.hid j1
  clear T3 B3 j3 j1
  go_wp2_with (first | (at_make; refine wpList_make_cap rfl _ _ hdE rfl .i64 .i64 _ kl rfl rfl rfl (by show 73 * kl ≤ _; omega) ?_; intro w4 hr4 hg4) | (at_range; refine wpList_range_is rfl _ _ rfl iK ptrV _ Try.underlying74 b l.length (fun v => (P v).map (fun a => a + 2)) rfl (HT3.out.map.kept hg4 (by simp)) ?_; intro w5 cnt0 hc0 hgo0 hg5 hs5))
  go_frame
  have hlow : b < w3.heap.size := HT3.out.map.lt
  have b34 : Below w3.heap.size w3 w5 := ⟨hg5.os.trans hg4.os, hg5.tape.trans hg4.tape, hg5.output.trans hg4.output, Nat.le_trans hg4.size hg5.size, fun k hk => (hg5.block k (Nat.lt_of_lt_of_le hk hg4.size) (by simp)).trans (hg4.block k hk (by simp))⟩
  have I0 : BxG w w3.heap.size b w4.heap.size l.length l P (.slice (some ⟨w3.heap.size, 0, none⟩) 0 kl) [] [] (fun v => ((P v).map (fun a => a + 2)).isSome) cnt0 w5 := by
    refine ⟨⟨(hr4.grown hg5 (.inr (by simp [Value.ownBlock])) (fun k hk => by cases hk)).here, rfl, fun j h b h1 => (by cases h1), fun j h h1 => (by cases h1), fun i j h h' h1 => (by cases h1)⟩, ⟨_, rfl⟩, hgo0, HT3.out.later b34, ⟨fun c => ⟨fun h => (by cases h), ?_⟩, by simp⟩, by simpa using hc0, HJ3.out.trans (b34.mono HJ3.out.size), HJ3.out.size, hr4.le, hlow, fun v a ha => ?_⟩
    · rintro ⟨v, h1, h2, _⟩
      obtain ⟨t, ht, _⟩ := (fin_valid HOK.out v).2 h1
      have hd := HT3.out.dom v
      rw [ht] at hd
      dsimp only at h2
      cases hp : P v with
      | none => rw [hp] at hd; cases hd
      | some a => rw [hp] at h2; cases h2
    · obtain ⟨t, ht⟩ := HT3.out.get ha
      exact (HT3.out.at' v a t ha ht).box.lt
  have BX5 : Hid (∀ X, Below w3.heap.size w5 X → Box X g #[.slice none 0 0] 28) := fun X hX => (HB3.out.later b34).under hX HB3.out.lt
  have HGB : Hid (g < w3.heap.size) := HB3.out.lt
  generalize w4.heap.size = r at I0 ⊢
  generalize w3.heap.size = B at I0 BX5 HGB ⊢
  have HBB : Hid (w.heap.size ≤ B) := I0.hB
  clear hr4 hg4 hgo0 hg5 hs5 hc0 hlen b34 HT3 HB3 HJ3 HJ1 hlow
  go_loopw [4] (fun lv wr => ∃ (bs : List Bx) (hs : List BxH) (todo : Int → Bool) (cnt : Nat), BxG w B b r l.length l P lv bs hs todo cnt wr ∧ Below B w5 wr) (fun _ wr => wr.rangeLeft b r)
  case atStart => exact ⟨_, _, _, _, I0, Below.refl _ _⟩
  case round =>
    clear I0
    obtain ⟨bs, hs, todo, cnt, I, hbr⟩ := hrel
    obtain ⟨pl, cl, rfl⟩ := I.sto.row.form
    have HI := Lib.hid I
    clear I
    go_wp2_with (at_next; refine wpList_next_is rfl _ rfl iK ptrV ptrV_inj b r l.length (fun v => (P v).map (fun a => a + 2)) todo cnt rfl HI.out.go ?_ ?_)
    · intro hdone
      have HDN := Lib.hid hdone
      clear hdone
      obtain ⟨gk, hgk⟩ : ∃ gk : Nat, pl = some ⟨gk, 0, none⟩ := by
        obtain ⟨kk, hkk⟩ := HI.out.some'
        rcases HI.out.sto.row.own.2 with ⟨e, _⟩ | ⟨g, cap, cur, e, _⟩
        · rw [e] at hkk; cases hkk
        · simp only [Value.slice.injEq] at e; exact ⟨g, e.1⟩
      subst hgk
      have HSO := Lib.hid (sortBoxes_any bs hs B gk cl _ HI.out.sto (by have := HI.out.len; have := HI.out.sto.len; omega))
      have HGK : Hid (B ≤ gk) := (HI.out.sto.row.own.lt gk rfl).1
      go_wp2_with fail
      refine HSO.out.mono ?_
      rintro e w6 ⟨rfl, bs6, hs6, hp6, hs6', S6, g6⟩
      have b6 : Below B w5 w6 := hbr.grown g6 HI.out.sto.row.le (fun k hk => by have := Option.some.inj hk; have := HGK.out; omega)
      have B6 := BX5.out _ b6
      have j6 : Below w.heap.size w w6 := HI.out.bel.grown g6 HI.out.bel.size (fun k hk => by have := Option.some.inj hk; have := HGK.out; have := HBB.out; omega)
      have HEQ : Hid (bs6 = tellAll l) := by
        refine rise_same (fun c => c.valid) ?_ (boxes_up l) (fun c => ?_)
        · have hnd : (bs6.map (·.valid)).Nodup := (hp6.map (·.valid)).nodup_iff.2 HI.out.coll.2
          have hnd' : bs6.Pairwise (fun x y => x.valid ≠ y.valid) := List.pairwise_map.1 hnd
          exact (hs6'.and hnd').imp (fun {x y} h => by have := h.1; have := h.2; omega)
        · rw [hp6.mem_iff, HI.out.coll.1 c]
          unfold tellAll
          rw [List.mem_map]
          constructor
          · rintro ⟨v, h1, _, h3⟩; exact ⟨v, h1, h3.symm⟩
          · rintro ⟨v, h1, h3⟩
            refine ⟨v, h1, HDN.out v ?_, h3.symm⟩
            obtain ⟨⟨x, hx, _, hv⟩, _⟩ := mem_valids.1 h1
            have := (HOK.out x hx).2.2.1
            exact wf_of (by omega) (by omega)
      have HSX := Lib.hid (S6.other HGB.out 0 (.slice (some ⟨gk, 0, none⟩) hs.length cl))
      have u0 := B6.cell 0 _ rfl
      have f0 := B6.loose 0
      have z0 := (B6.set 0 (.slice (some ⟨gk, 0, none⟩) hs.length cl)).cell 0 _ rfl
      have HJ6 := Lib.hid (j6.setCell (p := ⟨g, 0, none⟩) (by rw [HG.out]; exact Nat.le_refl _) (.slice (some ⟨gk, 0, none⟩) hs.length cl))
      clear S6 B6 b6 j6 g6 hp6 hs6' HSO
      go_wp2
      refine bodyPost_ret (v := .agg #[.slice (some ⟨gk, 0, none⟩) hs.length cl]) (by simp [results, Try.results7, go_sem, z0]) rfl ⟨_, hs6, rfl, ?_, HJ6.out⟩
      rw [HS.out, ← HEQ.out]
      exact HSX.out.lower HBB.out
    · intro vd c wN cntN hku htodo a ha hc hgoN hcntN hgN hsN hen
      subst hc
      replace hen : (Instr.entry (.pointer (some ⟨r, 0, none⟩))).run Try.prog wN = .ok (.tuple #[.int .i64 vd, .pointer (some ⟨a + 2, 0, none⟩)]) wN := hen
      rw [show iK.val vd = .int .i64 vd from rfl, show ptrV (a + 2) = .pointer (some ⟨a + 2, 0, none⟩) from rfl]
      obtain ⟨t, ht⟩ := HI.out.told.get ha
      have GN : BxN w B b r l.length l P (.slice pl hs.length cl) bs hs (fun y => todo y && !decide (y = vd)) cntN wN := BxN.of HI.out hgN hgoN
      have hbN : Below B w5 wN := hbr.grown hgN HI.out.sto.row.le (fun k hk => by have := Option.some.inj hk; have := HI.out.hr; omega)
      have TN := GN.told.at' vd a t ha ht
      obtain ⟨p0, _⟩ := TN.box.twelve
      have HTD := Lib.hid htodo
      have HA := Lib.hid ha
      have HTT := Lib.hid ht
      have HCN := Lib.hid hcntN
      have HGN := Lib.hid GN
      have HTN := Lib.hid TN
      have HBN := Lib.hid hbN
      clear hku htodo ha ht hcntN hgoN hgN hsN GN TN hbN hbr
      by_cases hnm : 0 < t.named.1
      · have HVM : Hid (vd ∈ upOf (validK l) l) := (fin_valid HOK.out vd).1 ⟨t, HTT.out, hnm⟩
        have hsm := fin_small HOK.out HTT.out
        have HBO := Lib.hid (box_any t a l.length wN HTN.out (by omega) hsm.1 hsm.2.1 hsm.2.2)
        clear hsm
        have hhl : hs.length ≤ 1000 := by have := HI.out.len; have := HI.out.sto.len; omega
        go_wp2_with (first
          | (go_at_call 30; refine HBO.out.mono ?_; rintro e w7 ⟨pm, cm, ms, rfl, RM, k7, hm1, hm2, hm3⟩; have HLT := RBuf.lit1 hdE w7 ⟨t.named.2.valid, t.named.2.user, t.named.2.name, t.next, pm, ms.length, cm⟩; have HRW := ((HGN.out.later k7).later (belNew w7 (.cells (hdE.f ⟨t.named.2.valid, t.named.2.user, t.named.2.name, t.next, pm, ms.length, cm⟩).toArray hdE.ty))); have HMB := Lib.hid (box_fin HOK.out HTT.out hnm hm1 hm2); have HLT' := Lib.hid HLT; have HRW' := Lib.hid HRW; have HRM := Lib.hid RM; clear HLT HRW RM hm1 hm2)
          | (at_builtin; refine wpList_append_rows rfl _ _ hdE rfl B _ hs rfl HRW'.out.sto.row w7.heap.size _ [⟨t.named.2.valid, t.named.2.user, t.named.2.name, t.next, pm, ms.length, cm⟩] rfl HLT'.out (by show _ * 73 ≤ _; simp only [List.length_cons, List.length_nil]; omega) ?_; intro v8 w8 r8 g8 at8))
        have hk8 := belNew w7 (.cells (hdE.f ⟨t.named.2.valid, t.named.2.user, t.named.2.name, t.next, pm, ms.length, cm⟩).toArray hdE.ty)
        have hBN : B ≤ wN.heap.size := HGN.out.sto.row.le
        have hmm := (HRM.out.here' hk8).lower hBN
        have HMM : ms = (boxK l vd).mails := by rw [← HMB.out]
        have HFIN := HRW'.out.push HI.out HVM.out HTD.out HCN.out ⟨t.named.2.valid, t.named.2.user, t.named.2.name, t.next, pm, ms.length, cm⟩ (by rw [← HMB.out]; exact ⟨rfl, rfl, rfl, rfl⟩) (by rw [← HMM]; exact hmm) (fun k hk j hj e => by
          have h1 := (HRM.out.own.lt k hk).1
          have h2 : j < wN.heap.size := by
            rcases hj with hj | ⟨i, y, hi, hj⟩
            · exact (HGN.out.sto.where'.1 j hj).2
            · exact (HGN.out.sto.where'.2 i y hi j hj).2
          omega) r8 g8 at8
        go_roundw
        case rel => exact ⟨_, _, _, _, HFIN.1, HBN.out.trans ((k7.trans (hk8.mono k7.size)).mono hBN |>.trans HFIN.2)⟩
        case measure =>
          have h1 := HFIN.1.go.left_eq
          have h2 := HI.out.go.left_eq
          have := HCN.out
          omega
      · have HVM : Hid (vd ∉ upOf (validK l) l) := fun c => by
          obtain ⟨t', h1, h2⟩ := (fin_valid HOK.out vd).2 c
          rw [HTT.out] at h1
          cases h1
          exact hnm h2
        go_wp2
        go_roundw
        case rel => exact ⟨_, _, _, _, HGN.out.skip HI.out HVM.out HCN.out, HBN.out⟩
        case measure =>
          have h1 := HGN.out.go.left_eq
          have h2 := HI.out.go.left_eq
          have := HCN.out
          omega

end Go.Proofs.Ytmahicpheimnjaa

/- The library's stable sort of boxes that stand in order already: nothing is changed. -/
namespace Go.Proofs.Ytmahicpheimnjaa
open Go.RowKit

theorem belGrow (W : World) (q : Nat) (os : Array Obj) : Below W.heap.size W (Sort.grow (W.drewN q) os) := by
  exact ⟨rfl, rfl, rfl, by simp [Sort.grow, World.drewN], fun k hk => by rw [Sort.heap_grow_old _ _ (by simpa [World.drewN] using hk)]; rfl⟩
theorem byValid_bel (x y : BxH) (W : World) : Calls Try.prog 32 #[.agg #[.int .i64 x.valid, .string x.user, .string x.name, .int .i64 x.next, .slice x.a x.n x.c], .agg #[.int .i64 y.valid, .string y.user, .string y.name, .int .i64 y.next, .slice y.a y.n y.c]] W fun e w' => e = .returned (.int .i64 (Lib.compareInt x.valid y.valid)) ∧ Below W.heap.size W w' := by
  refine (byValid_any x y W).mono ?_
  rintro e w' ⟨rfl, q, os, rfl⟩
  exact ⟨rfl, belGrow W q os⟩

/-- The row of boxes at a place. -/
def HdAt (w : World) (ad : Option Addr) (hs : List BxH) : Prop := ∀ X, Below w.heap.size w X → ∀ (i : Nat) (x : BxH), hs[i]? = some x → ∃ g off : Nat, ad = some ⟨g, off, none⟩ ∧
  X.cell? ⟨g, off + i * 5, none⟩ = some (.int .i64 x.valid) ∧ X.cell? ⟨g, off + i * 5 + 1, none⟩ = some (.string x.user) ∧ X.cell? ⟨g, off + i * 5 + 2, none⟩ = some (.string x.name) ∧ X.cell? ⟨g, off + i * 5 + 3, none⟩ = some (.int .i64 x.next) ∧ X.cell? ⟨g, off + i * 5 + 4, none⟩ = some (.slice x.a x.n x.c)
theorem HdAt.of {w : World} {v : Value} {hs : List BxH} (hr : Rows' hdE w v hs) : ∃ (ad : Option Addr) (cap : Nat), v = .slice ad hs.length cap ∧ HdAt w ad hs := by
  rcases hr.ways with ⟨rfl, a, c, rfl⟩ | ⟨hne, g, off, c, rfl, hc, hg, hcl⟩
  · exact ⟨a, c, rfl, fun X _ i x hx => by cases hx⟩
  · refine ⟨_, c, rfl, fun X hX i x hx => ?_⟩
    have hk : ∀ k v, (hdE.f x)[k]? = some v → X.cell? ⟨g, off + i * 5 + k, none⟩ = some v := fun k v hv => (hX.cell (p := ⟨g, off + i * 5 + k, none⟩) hg).trans (hcl i x hx k v hv)
    exact ⟨g, off, rfl, hk 0 _ rfl, hk 1 _ rfl, hk 2 _ rfl, hk 3 _ rfl, hk 4 _ rfl⟩

set_option maxRecDepth 100000 in
set_option maxHeartbeats 4000000 in
theorem insAsc_any (hs : List BxH) (ad : Option Addr) (cap a b : Nat) (w : World) (H : HdAt w ad hs) (asc : ∀ (i : Nat) (x y : BxH), hs[i]? = some x → hs[i + 1]? = some y → ¬ y.valid < x.valid) (hb : b ≤ hs.length) (hab : a ≤ b) (hl : hs.length ≤ 1048576) :
    Calls Try.prog 91 #[.slice ad hs.length cap, .int .i64 (a : Int), .int .i64 (b : Int), .func (.func 32) #[] #[]] w fun e w' => e = .returned (.tuple #[]) ∧ Below w.heap.size w w' := by
  have HH := Lib.hid H
  have HA := Lib.hid asc
  clear H asc
  obtain ⟨n, hn⟩ : ∃ n, hs.length = n := ⟨_, rfl⟩
  rw [hn] at hl hb ⊢
  have HN := Lib.hid hn
  clear hn
  have hw0 : IntKind.i64.wrap ((a : Int) + 1) = ((a + 1 : Nat) : Int) := (IntWalk.i64_in _ ⟨by omega, by omega⟩).trans (by omega)
  go_enter Try.func91, Try.ntmps91
  go_wp2
  go_loopw [8] (fun iv wr => ∃ i : Nat, a + 1 ≤ i ∧ i ≤ b + 1 ∧ iv = .int .i64 (i : Int) ∧ Below w.heap.size w wr) (fun iv _ => b + 1 - (intOf iv).toNat)
  case atStart => exact ⟨a + 1, by omega, by omega, by first | rfl | simp | (simp [hw0]), Below.refl _ _⟩
  case round =>
    obtain ⟨i, hi, hi2, rfl, bW⟩ := hrel
    by_cases hlt : (i : Int) < (b : Int)
    · obtain ⟨k, hk⟩ : ∃ k : Nat, i = k + 1 := ⟨i - 1, by omega⟩
      obtain ⟨x, hx⟩ : ∃ x, hs[i]? = some x := ⟨_, List.getElem?_eq_getElem (by rw [HN.out]; omega)⟩
      obtain ⟨y, hy⟩ : ∃ y, hs[k]? = some y := ⟨_, List.getElem?_eq_getElem (by rw [HN.out]; omega)⟩
      obtain ⟨g, off, rfl, -⟩ := HH.out w (Below.refl _ _) i x hx
      have hc := HA.out k y x hy (by rw [← hk]; exact hx)
      have HC : Hid (decide (Lib.compareInt x.valid y.valid < 0) = false) := by
        show _ = _
        unfold Lib.compareInt
        rw [if_neg (by omega)]
        split <;> simp
      obtain ⟨r, hr⟩ : ∃ r, Lib.compareInt x.valid y.valid = r := ⟨_, rfl⟩
      have HR := Lib.hid hr
      rw [hr] at HC
      have hr0 : (0 : Int) ≤ r := by have h8 := HC.out; simp at h8; omega
      have HY : Hid (∀ X, Below w.heap.size w X → (X.cell? ⟨g, off + i * 5, none⟩ = some (.int .i64 x.valid) ∧ X.cell? ⟨g, off + i * 5 + 1, none⟩ = some (.string x.user) ∧ X.cell? ⟨g, off + i * 5 + 2, none⟩ = some (.string x.name) ∧ X.cell? ⟨g, off + i * 5 + 3, none⟩ = some (.int .i64 x.next) ∧ X.cell? ⟨g, off + i * 5 + 4, none⟩ = some (.slice x.a x.n x.c)) ∧ X.cell? ⟨g, off + k * 5, none⟩ = some (.int .i64 y.valid) ∧ X.cell? ⟨g, off + k * 5 + 1, none⟩ = some (.string y.user) ∧ X.cell? ⟨g, off + k * 5 + 2, none⟩ = some (.string y.name) ∧ X.cell? ⟨g, off + k * 5 + 3, none⟩ = some (.int .i64 y.next) ∧ X.cell? ⟨g, off + k * 5 + 4, none⟩ = some (.slice y.a y.n y.c)) := fun X hX => by
        obtain ⟨g1, o1, e1, c1⟩ := HH.out X hX i x hx
        obtain ⟨g3, o3, e3, c3⟩ := HH.out X hX k y hy
        cases e1
        cases e3
        exact ⟨c1, c3⟩
      have hw1 : IntKind.i64.wrap ((i : Int) - 1) = (k : Int) := (IntWalk.i64_in _ ⟨by omega, by omega⟩).trans (by omega)
      have hw2 : IntKind.i64.wrap ((i : Int) + 1) = ((i + 1 : Nat) : Int) := (IntWalk.i64_in _ ⟨by omega, by omega⟩).trans (by omega)
      have hia : (a : Int) < (i : Int) := by omega
      have hi0 : (0 : Int) ≤ (i : Int) := by omega
      have hi1 : (i : Int) < (n : Int) := by omega
      have hk0 : (0 : Int) ≤ (k : Int) := by omega
      have hk1 : (k : Int) < (n : Int) := by omega
      have HIK := Lib.hid hk
      clear hx hy hc hr hk
      go_wp2
      go_loopw [9] (fun jv wr => jv = .int .i64 (i : Int) ∧ Below w.heap.size w wr) (fun _ _ => 0)
      case atStart => exact ⟨rfl, bW⟩
      case round =>
        clear bW
        obtain ⟨rfl, bW⟩ := hrel
        have kk : Below w.heap.size w wr.drew := bW.drew
        obtain ⟨⟨p0, p1, p2, p3, p4⟩, q0, q1, q2, q3, q4⟩ := HY.out _ kk
        go_upto_region 4 with fail
        go_region_held3 (fun X => (X.cell? ⟨g, off + i * 5, none⟩ = some (.int .i64 x.valid) ∧ X.cell? ⟨g, off + i * 5 + 1, none⟩ = some (.string x.user) ∧ X.cell? ⟨g, off + i * 5 + 2, none⟩ = some (.string x.name) ∧ X.cell? ⟨g, off + i * 5 + 3, none⟩ = some (.int .i64 x.next) ∧ X.cell? ⟨g, off + i * 5 + 4, none⟩ = some (.slice x.a x.n x.c)) ∧ X.cell? ⟨g, off + k * 5, none⟩ = some (.int .i64 y.valid) ∧ X.cell? ⟨g, off + k * 5 + 1, none⟩ = some (.string y.user) ∧ X.cell? ⟨g, off + k * 5 + 2, none⟩ = some (.string y.name) ∧ X.cell? ⟨g, off + k * 5 + 3, none⟩ = some (.int .i64 y.next) ∧ X.cell? ⟨g, off + k * 5 + 4, none⟩ = some (.slice y.a y.n y.c))
          (first | exact HY.out _ kk)
          (first | (go_at_call 32; refine (byValid_bel x y _).mono ?_; rintro e wX ⟨rfl, kX⟩; rw [HR.out]; have kk := kk.trans (kX.mono kk.size)))
        all_goals
          go_wp2
          exact ⟨⟨i + 1, by omega, by omega, by first | rfl | (simp [hw2]) | simp, by simpa using kk⟩, by first | omega | (simp [intOf]; omega)⟩
    · go_wp2
      go_end0
      exact ⟨rfl, bW⟩

set_option maxRecDepth 100000 in
set_option maxHeartbeats 4000000 in
theorem stableAsc_any (hs : List BxH) (ad : Option Addr) (cap : Nat) (w : World) (H : HdAt w ad hs) (asc : ∀ (i : Nat) (x y : BxH), hs[i]? = some x → hs[i + 1]? = some y → ¬ y.valid < x.valid) (hl : hs.length ≤ 19) :
    Calls Try.prog 67 #[.slice ad hs.length cap, .int .i64 (hs.length : Int), .func (.func 32) #[] #[]] w fun e w' => e = .returned (.tuple #[]) ∧ Below w.heap.size w w' := by
  have HI := Lib.hid (insAsc_any hs ad cap 0 hs.length w H asc (Nat.le_refl _) (Nat.zero_le _) (by omega))
  clear H asc
  obtain ⟨n, hn⟩ : ∃ n, hs.length = n := ⟨_, rfl⟩
  rw [hn] at hl HI ⊢
  clear hn
  have h20 : ¬ (20 : Int) ≤ (n : Int) := by omega
  have h21 : ¬ (20 : Int) < (n : Int) := by omega
  go_enter Try.func67, Try.ntmps67
  go_wp2
  go_loopw [7, 8] (fun u v wr => u = .int .i64 0 ∧ v = .int .i64 20 ∧ wr = w) (fun _ _ _ => 0)
  case atStart => exact ⟨rfl, rfl, rfl⟩
  case round =>
    obtain ⟨rfl, rfl, rfl⟩ := hrel
    go_wp2_with fail
    refine HI.out.mono ?_
    rintro e w1 ⟨rfl, k1⟩
    go_wp2
    go_loopw [6] (fun v wr => v = .int .i64 20 ∧ wr = w1) (fun _ _ => 0)
    case atStart => exact ⟨rfl, rfl⟩
    case round =>
      obtain ⟨rfl, rfl⟩ := hrel
      go_wp2
      go_end0
      exact ⟨rfl, k1⟩

set_option maxRecDepth 100000 in
set_option maxHeartbeats 4000000 in
theorem sortStable_any (hs : List BxH) (ad : Option Addr) (cap : Nat) (w : World) (H : HdAt w ad hs) (asc : ∀ (i : Nat) (x y : BxH), hs[i]? = some x → hs[i + 1]? = some y → ¬ y.valid < x.valid) (hl : hs.length ≤ 19) :
    Calls Try.prog 37 #[.slice ad hs.length cap, .func (.func 32) #[] #[]] w fun e w' => e = .returned (.tuple #[]) ∧ Below w.heap.size w w' := by
  have HI := Lib.hid (stableAsc_any hs ad cap w H asc hl)
  clear H asc
  obtain ⟨n, hn⟩ : ∃ n, hs.length = n := ⟨_, rfl⟩
  rw [hn] at hl HI ⊢
  clear hn
  go_enter Try.func37, Try.ntmps37
  go_wp2_with fail
  refine HI.out.mono ?_
  rintro e w1 ⟨rfl, k1⟩
  go_wp2
  go_end0
  exact ⟨rfl, k1⟩

end Go.Proofs.Ytmahicpheimnjaa

/- What records tell: the model's BoxesOf. -/
namespace Go.Proofs.Ytmahicpheimnjaa
open Go.RowKit

/-- The names of a user's boxes. -/
noncomputable def namesOf (ps : List Bx) (u : ByteArray) : List ByteArray := (ps.filter (fun b => @decide (b.user = u) (Classical.propDecidable _))).map (·.name)
theorem names_yes {ps : List Bx} {u : ByteArray} {i : Nat} {x : Bx} (h : ps[i]? = some x) (hu : x.user = u) : namesOf (ps.take (i + 1)) u = namesOf (ps.take i) u ++ [x.name] := by
  rw [List.take_add_one, h]
  simp [namesOf, List.filter_append, hu]
theorem names_no {ps : List Bx} {u : ByteArray} {i : Nat} {x : Bx} (h : ps[i]? = some x) (hu : x.user ≠ u) : namesOf (ps.take (i + 1)) u = namesOf (ps.take i) u := by
  rw [List.take_add_one, h]
  simp [namesOf, List.filter_append, hu]
theorem names_len (ps : List Bx) (u : ByteArray) (i : Nat) (hi : i ≤ ps.length) : (namesOf (ps.take i) u).length ≤ i := by
  unfold namesOf
  rw [List.length_map]
  refine Nat.le_trans (List.length_filter_le _ _) ?_
  rw [List.length_take]; omega

set_option maxRecDepth 100000 in
set_option maxHeartbeats 4000000 in
theorem specBoxesOf_any (ps : List Bx) (va : Value) (u : ByteArray) (w : World) (ha : BRd w va ps) (hla : ps.length ≤ 1048576) :
    Calls Try.prog 13 #[.agg #[va], .string u] w fun e w' => ∃ v, e = .returned v ∧ SBuf w.heap.size w w' v (namesOf ps u) := by
  obtain ⟨ad, cap, rfl, hrowa⟩ := ha.boxes
  have HA := Lib.hid hrowa
  clear ha hrowa
  obtain ⟨n, hn⟩ : ∃ n, ps.length = n := ⟨_, rfl⟩
  have HN := Lib.hid hn
  rw [hn] at hla ⊢
  clear hn
  have b1 : Below w.heap.size w (w.alloc (.cells #[.slice ad n cap] 28)) := belNew _ _
  have X2 := Box.new w #[.slice ad n cap] 28
  go_enter Try.func13, Try.ntmps13
  go_upto_region 1 with fail
  generalize w.alloc (.cells #[.slice ad n cap] 28) = w1 at b1 X2 ⊢
  have BW := Lib.hid b1
  have X2' := Lib.hid X2
  clear b1 X2
  generalize hg2 : w.heap.size = g2 at X2' ⊢
  have I0 := SBuf.fresh w1
  go_wp2
  go_loopw [5, 6] (fun v iv wr => ∃ i : Nat, i ≤ n ∧ iv = .int .i64 (i : Int) ∧ SBuf w1.heap.size w1 wr v (namesOf (ps.take i) u)) (fun _ iv _ => n - (intOf iv).toNat)
  case atStart => exact ⟨0, by omega, rfl, I0⟩
  case round =>
    clear I0
    obtain ⟨i, hi, rfl, I⟩ := hrel
    have Y2 : wr.cell? ⟨g2, 0, none⟩ = some (.slice ad n cap) := (X2'.out.later I.bel).cell 0 _ rfl
    by_cases hlt : i < n
    · obtain ⟨x, hgx⟩ : ∃ x, ps[i]? = some x := ⟨_, List.getElem?_eq_getElem (by rw [HN.out]; exact hlt)⟩
      have bW : Below w.heap.size w wr := BW.out.trans (I.bel.mono BW.out.size)
      obtain ⟨gp, op, a1, n1, c1, rfl, p0, p1, p2, p3, p4, ra⟩ := HA.out _ bW i _ hgx
      have hlu : (namesOf (ps.take i) u).length ≤ 1048576 := by
        have := names_len ps u i (by rw [HN.out]; exact hi)
        omega
      have HY := Lib.hid (fun h => names_yes (u := u) hgx h)
      have HO := Lib.hid (fun h => names_no (u := u) hgx h)
      generalize namesOf (ps.take i) u = us at *
      have hi0 : (0 : Int) ≤ (i : Int) := by omega
      have hi1 : (i : Int) < (n : Int) := by omega
      clear hgx bW ra p0 p3 p4
      by_cases hu : x.user = u
      · subst hu
        have HY' := Lib.hid (HY.out rfl)
        clear HY HO
        go_wp2_with (at_builtin; refine wpList_append_str rfl _ _ rfl _ _ _ rfl (I.alloc _) ⟨wr.heap.size, 0, none⟩ x.name rfl (cell_one_new _ _ _) ?c1 ?_)
        case c1 => omega
        intro v' w2 hb'
        go_wp2
        go_roundw
        case rel => exact ⟨i + 1, by omega, by go_num, by rw [HY'.out]; exact hb'⟩
        case measure => simp [intOf]; omega
      · have hu' : (x.user.toList == u.toList) = false := by rw [beq_eq_false_iff_ne]; exact fun h => hu ((ba_same' _ _).1 h)
        have HO' := Lib.hid (HO.out hu)
        clear HY HO
        go_wp2
        go_roundw
        case rel => exact ⟨i + 1, by omega, by go_num, by rw [HO'.out]; exact I⟩
        case measure => simp [intOf]; omega
    · go_wp2
      go_ret
      refine ⟨_, rfl, ?_⟩
      have hil : i = ps.length := by rw [HN.out]; omega
      rw [hil, List.take_length] at I
      rw [← hg2]
      exact SBuf.under BW.out I

end Go.Proofs.Ytmahicpheimnjaa

/- What records tell: the program's BoxesOf, of boxes that stand in order. -/
namespace Go.Proofs.Ytmahicpheimnjaa
open Go.RowKit

noncomputable def hdsOf (hs : List BxH) (u : ByteArray) : List BxH := hs.filter (fun b => @decide (b.user = u) (Classical.propDecidable _))
theorem hds_yes {hs : List BxH} {u : ByteArray} {i : Nat} {x : BxH} (h : hs[i]? = some x) (hu : x.user = u) : hdsOf (hs.take (i + 1)) u = hdsOf (hs.take i) u ++ [x] := by
  rw [List.take_add_one, h]
  simp [hdsOf, List.filter_append, hu]
theorem hds_no {hs : List BxH} {u : ByteArray} {i : Nat} {x : BxH} (h : hs[i]? = some x) (hu : x.user ≠ u) : hdsOf (hs.take (i + 1)) u = hdsOf (hs.take i) u := by
  rw [List.take_add_one, h]
  simp [hdsOf, List.filter_append, hu]
theorem hds_len (hs : List BxH) (u : ByteArray) : (hdsOf hs u).length ≤ hs.length := List.length_filter_le _ _
theorem hds_asc {hs : List BxH} (u : ByteArray) (h : hs.Pairwise (fun x y => ¬ y.valid < x.valid)) : ∀ (i : Nat) (x y : BxH), (hdsOf hs u)[i]? = some x → (hdsOf hs u)[i + 1]? = some y → ¬ y.valid < x.valid := by
  intro i x y h1 h2
  have hp : (hdsOf hs u).Pairwise (fun x y => ¬ y.valid < x.valid) := h.filter _
  obtain ⟨l1, e1⟩ := List.getElem?_eq_some_iff.1 h1
  obtain ⟨l2, e2⟩ := List.getElem?_eq_some_iff.1 h2
  have := List.pairwise_iff_getElem.1 hp i (i + 1) l1 l2 (by omega)
  rw [e1, e2] at this
  exact this

theorem names_hds : ∀ (hs : List BxH) (ps : List Bx) (u : ByteArray), hs.length = ps.length → (∀ (j : Nat) (h : BxH) (b : Bx), hs[j]? = some h → ps[j]? = some b → h.user = b.user ∧ h.name = b.name) → (hdsOf hs u).map (·.name) = namesOf ps u
  | [], [], _, _, _ => rfl
  | [], _ :: _, _, h, _ => by simp at h
  | _ :: _, [], _, h, _ => by simp at h
  | x :: hs, b :: ps, u, h, H => by
    have ih := names_hds hs ps u (by simpa using h) (fun j y c h1 h2 => H (j + 1) y c (by simpa using h1) (by simpa using h2))
    obtain ⟨e1, e2⟩ := H 0 x b rfl rfl
    unfold hdsOf namesOf at *
    by_cases hu : b.user = u
    · simp [e1, hu, e2, ih]
    · simp [e1, hu, ih]

theorem texts_row (l : List ByteArray) : strE.row l = strV l := by
  induction l with
  | nil => rfl
  | cons x l ih =>
    have : strE.row (x :: l) = .string x :: strE.row l := rfl
    rw [this, ih]; rfl
theorem RBuf.toTexts {B : Nat} {w0 w : World} {v : Value} {l : List ByteArray} (h : RBuf strE B w0 w v l) : SBuf B w0 w v l :=
  ⟨by have := h.own; rw [texts_row] at this; exact this, h.bel, h.le⟩
set_option maxRecDepth 100000 in
set_option maxHeartbeats 4000000 in
theorem implBoxesOf_any (ps : List Bx) (va : Value) (u : ByteArray) (w : World) (ha : BRd w va ps) (hla : ps.length ≤ 19) (hsz : ∀ b ∈ ps, b.name.size ≤ 1048576) (asc : ps.Pairwise (fun x y => ¬ y.valid < x.valid)) :
    Calls Try.prog 12 #[.agg #[va], .string u] w fun e w' => ∃ v, e = .returned v ∧ SBuf w.heap.size w w' v (namesOf ps u) := by
  obtain ⟨hs, hr, hlen, hat⟩ := ha
  have HAT := Lib.hid (And.intro hlen hat)
  have HAS : Hid (hs.Pairwise (fun x y => ¬ y.valid < x.valid)) := by
    show List.Pairwise _ _
    rw [List.pairwise_iff_getElem] at asc ⊢
    intro i j h1 h2 hij
    have q1 := (hat i _ _ (List.getElem?_eq_getElem h1) (List.getElem?_eq_getElem (by omega))).1.1
    have q2 := (hat j _ _ (List.getElem?_eq_getElem h2) (List.getElem?_eq_getElem (by omega))).1.1
    rw [q1, q2]
    exact asc i j _ _ hij
  have HSZ : Hid (∀ x ∈ hs, x.name.size ≤ 1048576) := fun x hx => by
    obtain ⟨i, hi, rfl⟩ := List.mem_iff_getElem.1 hx
    have q := (hat i _ _ (List.getElem?_eq_getElem hi) (List.getElem?_eq_getElem (by omega))).1.2.2.1
    rw [q]
    exact hsz _ (List.getElem_mem _)
  rw [← hlen] at hla
  obtain ⟨n, hn⟩ : ∃ n, hs.length = n := ⟨_, rfl⟩
  have HN := Lib.hid hn
  obtain ⟨ad, cap, rfl, hrow⟩ := HdAt.of hr
  rw [hn]
  rw [hn] at hla
  clear hr hlen hat asc hsz hn
  have HA := Lib.hid hrow
  clear hrow
  have b1 : Below w.heap.size w (w.alloc (.cells #[.slice ad n cap] 28)) := belNew _ _
  have X2 := Box.new w #[.slice ad n cap] 28
  go_enter Try.func12, Try.ntmps12
  go_upto_region 1 with fail
  generalize w.alloc (.cells #[.slice ad n cap] 28) = w1 at b1 X2 ⊢
  have BW := Lib.hid b1
  have X2' := Lib.hid X2
  clear b1 X2
  generalize hg2 : w.heap.size = g2 at X2' ⊢
  have I0 : RBuf hdE w1.heap.size w1 (w1.alloc (.cells #[] 32)) (.slice (some ⟨w1.heap.size, 0, none⟩) 0 0) (hdsOf (hs.take 0) u) := RBuf.fresh hdE w1
  have Y2 : (w1.alloc (.cells #[] 32)).cell? ⟨g2, 0, none⟩ = some (.slice ad n cap) := (X2'.out.later I0.bel).cell 0 _ rfl
  go_wp2
  go_loopw [5, 15] (fun v iv wr => ∃ i : Nat, i ≤ n ∧ iv = .int .i64 (i : Int) ∧ RBuf hdE w1.heap.size w1 wr v (hdsOf (hs.take i) u)) (fun _ iv _ => n - (intOf iv).toNat)
  case atStart => exact ⟨0, by omega, rfl, I0⟩
  case round =>
    clear I0 Y2
    obtain ⟨i, hi, rfl, I⟩ := hrel
    by_cases hlt : i < n
    · obtain ⟨x, hgx⟩ : ∃ x, hs[i]? = some x := ⟨_, List.getElem?_eq_getElem (by rw [HN.out]; exact hlt)⟩
      have bW : Below w.heap.size w wr := BW.out.trans (I.bel.mono BW.out.size)
      obtain ⟨gp, op, rfl, p0, p1, p2, p3, p4⟩ := HA.out _ bW i _ hgx
      have hlu : (hdsOf (hs.take i) u).length ≤ 19 := by
        have h8 := hds_len (hs.take i) u
        rw [List.length_take] at h8
        omega
      have HY := Lib.hid (fun h => hds_yes (u := u) hgx h)
      have HO := Lib.hid (fun h => hds_no (u := u) hgx h)
      generalize hdsOf (hs.take i) u = us at *
      have hi0 : (0 : Int) ≤ (i : Int) := by omega
      have hi1 : (i : Int) < (n : Int) := by omega
      have kN := belNew wr (.cells #[.int .i64 x.valid, .string x.user, .string x.name, .int .i64 x.next, .slice x.a x.n x.c] 32)
      obtain ⟨z0, z1, z2, z3, z4⟩ := (Box.new wr #[.int .i64 x.valid, .string x.user, .string x.name, .int .i64 x.next, .slice x.a x.n x.c] 32).five
      have I1 := I.later kN
      clear hgx bW kN I
      go_upto_region 5 with fail
      generalize wr.alloc (.cells #[.int .i64 x.valid, .string x.user, .string x.name, .int .i64 x.next, .slice x.a x.n x.c] 32) = w2 at z0 z1 z2 z3 z4 I1 ⊢
      generalize wr.heap.size = g7 at z0 z1 z2 z3 z4 ⊢
      clear p0 p1 p2 p3 p4
      by_cases hu : x.user = u
      · subst hu
        have HY' := Lib.hid (HY.out rfl)
        have hb5 := Lib.hid (I1.alloc (.cells #[.int .i64 x.valid, .string x.user, .string x.name, .int .i64 x.next, .slice x.a x.n x.c] 32))
        have hL5 := Lib.hid (RBuf.lit1 hdE w2 x)
        clear HY HO
        obtain ⟨a5, c5, rfl⟩ := I1.form
        clear I1
        go_wp2_with (at_builtin; refine wpList_append_rows rfl _ _ hdE rfl w1.heap.size _ us rfl hb5.out.here w2.heap.size _ [x] rfl hL5.out (by show _ * 73 ≤ _; simp only [List.length_cons, List.length_nil]; omega) ?_; intro v8 w8 r8 g8 at8)
        exact ⟨⟨i + 1, by omega, by simp, by rw [HY'.out]; exact ⟨r8.own, hb5.out.bel.grown g8 hb5.out.le (fun q hq => (hb5.out.own.lt q hq).1), r8.le⟩⟩, by first | omega | (simp [intOf]; omega)⟩
      · have hu' : (x.user.toList == u.toList) = false := by rw [beq_eq_false_iff_ne]; exact fun h => hu ((ba_same' _ _).1 h)
        have HO' := Lib.hid (HO.out hu)
        clear HY HO
        go_wp2
        go_roundw
        case rel => exact ⟨i + 1, by omega, by go_num, by rw [HO'.out]; exact I1⟩
        case measure => simp [intOf]; omega
    · have hil : i = hs.length := by rw [HN.out]; omega
      rw [hil, List.take_length] at I
      have HUA := Lib.hid (hds_asc u (HAS.out.imp (fun h => by omega)))
      have hul : (hdsOf hs u).length ≤ 19 := by have h8 := hds_len hs u; rw [HN.out] at h8; omega
      have HUZ : Hid (∀ x ∈ hdsOf hs u, x.name.size ≤ 1048576) := fun x hx => HSZ.out x (List.mem_filter.1 hx).1
      have HNM : Hid ((hdsOf hs u).map (·.name) = namesOf ps u) := names_hds hs ps u HAT.out.1 (fun j h b h1 h2 => ⟨(HAT.out.2 j h b h1 h2).1.2.1, (HAT.out.2 j h b h1 h2).1.2.2.1⟩)
      obtain ⟨us, hus⟩ : ∃ us, hdsOf hs u = us := ⟨_, rfl⟩
      rw [hus] at I HUA hul HUZ HNM
      obtain ⟨wB, hwB⟩ : ∃ wB, wB = wr := ⟨_, rfl⟩
      subst hwB
      have bB := BW.out.trans (I.bel.mono BW.out.size)
      obtain ⟨ad3, c3, rfl, H3⟩ := HdAt.of I.rows
      have HS3 := Lib.hid (sortStable_any us ad3 c3 wB H3 HUA.out hul)
      have HH3 := Lib.hid H3
      clear hus hil I H3 HUA HAS HSZ HAT HA HN hi
      obtain ⟨m, hm⟩ : ∃ m, us.length = m := ⟨_, rfl⟩
      rw [hm] at hul HS3 ⊢
      have HM := Lib.hid hm
      clear hm
      go_wp2_with fail
      refine HS3.out.mono ?_
      rintro e w3 ⟨rfl, k3⟩
      go_wp2_with (at_make; refine wpList_make_cap rfl _ _ strE rfl .i64 .i64 _ m rfl rfl rfl (by show 17 * m ≤ _; omega) ?_; intro w4 hr4 hg4)
      go_loopw [8, 35] (fun v iv wr => ∃ j : Nat, j ≤ m ∧ iv = .int .i64 (j : Int) ∧ RBuf strE w3.heap.size w3 wr v ((us.take j).map (·.name))) (fun _ iv _ => m - (intOf iv).toNat)
      case atStart => exact ⟨0, by omega, rfl, hr4⟩
      case round =>
        clear hr4 hg4
        obtain ⟨j, hj, rfl, I⟩ := hrel
        by_cases hlt : j < m
        · obtain ⟨x, hgx⟩ : ∃ x, us[j]? = some x := ⟨_, List.getElem?_eq_getElem (by rw [HM.out]; exact hlt)⟩
          obtain ⟨gp, op, rfl, p0, p1, p2, p3, p4⟩ := HH3.out _ (k3.trans (I.bel.mono k3.size)) j _ hgx
          have hxz := HUZ.out x (List.mem_of_getElem? hgx)
          have HT : Hid ((us.take (j + 1)).map (·.name) = (us.take j).map (·.name) ++ [x.name]) := by
            show _ = _
            rw [List.take_add_one, hgx]
            simp
          have hlu : ((us.take j).map (·.name)).length ≤ 19 := by rw [List.length_map, List.length_take]; omega
          generalize (us.take j).map (·.name) = ts at *
          have hi0 : (0 : Int) ≤ (j : Int) := by omega
          have hi1 : (j : Int) < (m : Int) := by omega
          have kN := belNew wr (.cells #[.int .i64 x.valid, .string x.user, .string x.name, .int .i64 x.next, .slice x.a x.n x.c] 32)
          obtain ⟨z0, z1, z2, z3, z4⟩ := (Box.new wr #[.int .i64 x.valid, .string x.user, .string x.name, .int .i64 x.next, .slice x.a x.n x.c] 32).five
          have I1 := I.later kN
          clear hgx kN I
          go_wp2_with fail
          generalize wr.alloc (.cells #[.int .i64 x.valid, .string x.user, .string x.name, .int .i64 x.next, .slice x.a x.n x.c] 32) = w5 at z0 z1 z2 z3 z4 I1 ⊢
          clear p0 p1 p2 p3 p4 z0 z1 z2 z3 z4
          refine (clone_any x.name _ (by omega)).mono ?_
          rintro e w6 ⟨rfl, k6⟩
          have I6 := I1.later k6
          have hb5 := Lib.hid (I6.alloc (.cells #[.string x.name] 9))
          have hL5 := Lib.hid (RBuf.lit1 strE w6 x.name)
          obtain ⟨a5, c5, rfl⟩ := I6.form
          clear I1 I6 k6
          go_wp2_with (at_builtin; refine wpList_append_rows rfl _ _ strE rfl w3.heap.size _ ts rfl hb5.out.here w6.heap.size _ [x.name] rfl hL5.out (by show _ * 17 ≤ _; simp only [List.length_cons, List.length_nil]; omega) ?_; intro v8 w8 r8 g8 at8)
          exact ⟨⟨j + 1, by omega, by simp, by rw [HT.out]; exact ⟨r8.own, hb5.out.bel.grown g8 hb5.out.le (fun q hq => (hb5.out.own.lt q hq).1), r8.le⟩⟩, by first | omega | (simp [intOf]; omega)⟩
        · have hjm : j = us.length := by rw [HM.out]; omega
          rw [hjm, List.take_length, HNM.out] at I
          have bE := bB.trans (k3.mono bB.size)
          have HE := Lib.hid (SBuf.under bE I.toTexts)
          clear I
          go_wp2
          go_ret
          rw [← hg2]
          exact ⟨_, rfl, HE.out⟩

end Go.Proofs.Ytmahicpheimnjaa

/- slices.Clone at mails. -/
namespace Go.Proofs.Ytmahicpheimnjaa
open Go.RowKit

theorem cloneM_any (l : List Ml) (v : Value) (w : World) (h : Rows' mlE w v l) (hl : l.length ≤ 1073741824) :
    Calls Try.prog 66 #[v] w fun e w' => ∃ v', e = .returned v' ∧ RBuf mlE w.heap.size w w' v' l := by
  have q : ∀ (w : World) (a : Option Addr) (n c n' c' : Nat), (binOp .eql 30 (.slice a n c) (.slice none n' c')).run Try.prog w = .ok (.bool a.isNone) w := fun w a n c n' c' => Lib.run_eql_slice_nil w _ _ a n c n' c' Try.underlying30
  have hv : ∃ (a : Option Addr) (c : Nat), v = .slice a l.length c ∧ (a = none → l = []) := by
    rcases h with ⟨rfl, a, c, rfl⟩ | ⟨g, off, cap, rfl, _⟩
    · exact ⟨a, c, rfl, fun _ => rfl⟩
    · exact ⟨_, _, rfl, fun e => by cases e⟩
  obtain ⟨a, c, rfl, hn⟩ := hv
  cases a with
  | none =>
    obtain rfl := hn rfl
    clear h hn
    go_enter Try.func66, Try.ntmps66
    go_wp2
    go_ret
    exact ⟨_, rfl, RBuf.nil mlE w⟩
  | some p =>
    clear hn
    have hb := (RBuf.fresh mlE w).here
    have hx := Lib.hid (h.later (belNew w (.cells #[] mlE.ty)))
    clear h
    go_enter Try.func66, Try.ntmps66
    go_wp2_with (at_builtin; refine wpList_append_rd rfl _ _ mlE rfl w.heap.size _ [] rfl hb _ l rfl hx.out (by simp [mlE]; omega) ?_; intro v1 w1 r1 g1 _; obtain ⟨a1, c1, rfl⟩ := r1.form)
    go_ret
    rw [List.nil_append] at r1
    exact ⟨_, rfl, ⟨r1.own, ((Below.refl w.heap.size w).alloc (Nat.le_refl _) _).grown g1 (by simp) (fun k hk => by have : w.heap.size = k := Option.some.inj hk; omega), r1.le⟩⟩

end Go.Proofs.Ytmahicpheimnjaa
