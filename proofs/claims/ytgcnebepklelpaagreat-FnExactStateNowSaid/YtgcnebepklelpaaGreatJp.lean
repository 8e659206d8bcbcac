/- Texts of our own, joined. -/
import Derived.Test.YtgcnebepklelpaaGreatJo
import Derived.Test.YtgcnebepklelpaaGreatJb
import Derived.Shelf.SlSortCmp.WholeK
import Derived.Test.YtgcnebepklelpaaGreatJh
import Derived.Test.YtgcnebepklelpaaGreatJc
import Derived.Test.YtgcnebepklelpaaGreatJi
import Derived.Test.YtgcnebepklelpaaGreatJd
import Derived.Laws.StructEq
import Derived.WalkSpells
import Derived.WalkSmall
import Derived.Test.YtgcnebepklelpaaGreatJk
/- The boxes that are told are those that the records of each Valid tell, plainly. -/
namespace Go.Proofs.YtgcnebepklelpaaGreat
open Classical in
theorem goneB_if (l : List Itm) (v u : Int) (t : Tb) : (lessA l v t).adds u = if goneB l v u then none else t.adds u := rfl

def mlOf (t : Tb) (u : Int) (x : Itm) : Ml := ⟨u, match t.flags u with | some y => y.2.flags | none => x.2.flags, x.2.text⟩

theorem rise_same {α : Type} (k : α → Int) : ∀ {l m : List α}, l.Pairwise (fun x y => k x < k y) → m.Pairwise (fun x y => k x < k y) → (∀ x, x ∈ l ↔ x ∈ m) → l = m
  | [], [], _, _, _ => rfl
  | [], y :: m, _, _, h => by have := (h y).2 (by simp); cases this
  | x :: l, [], _, _, h => by have := (h x).1 (by simp); cases this
  | x :: l, y :: m, hl, hm, h => by
    rw [List.pairwise_cons] at hl hm
    have e : x = y := by
      rcases List.mem_cons.1 ((h x).1 (by simp)) with e | hx
      · exact e
      · rcases List.mem_cons.1 ((h y).2 (by simp)) with e | hy
        · exact e.symm
        · have := hl.1 y hy; have := hm.1 x hx; omega
    subst e
    rw [rise_same k hl.2 hm.2 (fun z => ?_)]
    constructor
    · intro hz
      rcases List.mem_cons.1 ((h z).1 (List.mem_cons_of_mem _ hz)) with e | hz'
      · have := hl.1 z hz; rw [e] at this; omega
      · exact hz'
    · intro hz
      rcases List.mem_cons.1 ((h z).2 (List.mem_cons_of_mem _ hz)) with e | hz'
      · have := hm.1 z hz; rw [e] at this; omega
      · exact hz'

theorem tellO_none {v : Int} {l : List Itm} (h : tellO v l = none) (x : Itm) (hx : x ∈ l) : ¬ (x.2.kind = 1 ∧ x.2.valid = v) := by
  have := bestO_I (fun x => x.2.next) (fun x => decide (x.2.kind = 1 ∧ x.2.valid = v)) l
  unfold tellO at h
  rw [h] at this
  exact of_decide_eq_false (this x hx)
theorem tellO_some {v : Int} {l : List Itm} {y : Itm} (h : tellO v l = some y) : y ∈ l ∧ y.2.kind = 1 ∧ y.2.valid = v := by
  have := bestO_I (fun x => x.2.next) (fun x => decide (x.2.kind = 1 ∧ x.2.valid = v)) l
  unfold tellO at h
  rw [h] at this
  exact ⟨this.1, of_decide_eq_true this.2.1⟩

noncomputable def finT (l : List Itm) (v : Int) : Option Tb := delT (toldT l) l v
theorem finT_some {l : List Itm} {v : Int} {t : Tb} (h : finT l v = some t) : t = lessA l v (fmT l v) ∧ ¬ dropB l v := by
  unfold finT delT at h
  split at h
  · cases h
  · rename_i c
    cases e : toldT l v with
    | none => rw [e] at h; cases h
    | some t0 =>
      rw [e] at h
      cases h
      exact ⟨by rw [toldT_some e], c⟩
theorem drop_best {l : List Itm} (hok : ∀ x ∈ l, x.2.ok) (v : Int) : ¬ dropB l v ↔ bestR 2 v 0 l = none := by
  constructor
  · intro h
    cases e : bestR 2 v 0 l with
    | none => rfl
    | some y =>
      obtain ⟨h1, h2, _⟩ := bestR_some e
      exact absurd ⟨y, h1, h2.1, h2.2.1⟩ h
  · rintro h ⟨x, hx, h1, h2⟩
    have hu : x.2.uid = 0 := by
      have := (hok x hx).2.2.2.1
      rw [if_neg (by omega)] at this
      exact this
    exact bestR_none h x hx ⟨h1, h2, hu⟩
theorem fin_valid {l : List Itm} (hok : ∀ x ∈ l, itOk x) (v : Int) : (∃ t, finT l v = some t ∧ 0 < t.named.1) ↔ v ∈ upOf (validK l) l := by
  have hok' : ∀ x ∈ l, x.2.ok := fun x hx => (hok x hx).2
  rw [mem_valids]
  constructor
  · rintro ⟨t, h1, h2⟩
    obtain ⟨rfl, hd⟩ := finT_some h1
    refine ⟨?_, (drop_best hok' v).1 hd⟩
    cases e : tellO v l with
    | none =>
      have : (lessA l v (fmT l v)).named.1 = 0 := by unfold lessA fmT; simp [e]
      omega
    | some y =>
      obtain ⟨q1, q2, q3⟩ := tellO_some e
      exact ⟨y, q1, q2, q3⟩
  · rintro ⟨⟨x, hx, h1, h2⟩, h3⟩
    have hd := (drop_best hok' v).2 h3
    have ht : toldT l v = some (fmT l v) := by unfold toldT; rw [if_pos ⟨x, hx, h2⟩]
    refine ⟨lessA l v (fmT l v), by unfold finT delT; rw [if_neg hd, ht]; rfl, ?_⟩
    cases e : tellO v l with
    | none => exact absurd ⟨h1, h2⟩ (tellO_none e x hx)
    | some y =>
      have : (lessA l v (fmT l v)).named = y := by unfold lessA fmT; simp [e]
      rw [this]
      have := (hok y (tellO_some e).1).1
      omega
open Classical in
theorem mails_fin {l : List Itm} (v : Int) {t : Tb} (h : t = lessA l v (fmT l v)) {ms : List Ml} (h1 : ∀ m, m ∈ ms ↔ ∃ x, t.adds m.uid = some x ∧ m = mlOf t m.uid x) (h2 : ms.Pairwise (fun x y => x.uid < y.uid)) : ms = mailsOf v l := by
  refine rise_same (fun m => m.uid) h2 (mails_up v l) (fun m => ?_)
  rw [h1 m]
  have hm : m ∈ mailsOf v l ↔ m.uid ∈ upOf (uidK v l) l ∧ m = mailK v l m.uid := by
    unfold mailsOf
    rw [List.mem_map]
    constructor
    · rintro ⟨u, hu, rfl⟩; exact ⟨hu, rfl⟩
    · rintro ⟨hu, e⟩; exact ⟨m.uid, hu, e.symm⟩
  rw [hm, mem_uids]
  have hadds : ∀ u, t.adds u = if goneB l v u then none else bestR 3 v u l := fun u => by rw [h]; rfl
  have hflags : ∀ u, t.flags u = bestR 4 v u l := fun u => by rw [h]; rfl
  have hgone : ∀ u, goneB l v u ↔ ¬ bestR 5 v u l = none := fun u => by
    constructor
    · rintro ⟨x, hx, q⟩ e; exact bestR_none e x hx q
    · intro e
      cases e2 : bestR 5 v u l with
      | none => exact absurd e2 e
      | some y => obtain ⟨q1, q2, _⟩ := bestR_some e2; exact ⟨y, q1, q2⟩
  have hml : ∀ u x, bestR 3 v u l = some x → mlOf t u x = mailK v l u := fun u x e => by
    unfold mlOf mailK
    rw [hflags, e]
    cases bestR 4 v u l <;> rfl
  constructor
  · rintro ⟨x, q1, q2⟩
    rw [hadds] at q1
    split at q1
    · cases q1
    · rename_i c
      have hb5 : bestR 5 v m.uid l = none := Classical.byContradiction (fun d => c ((hgone _).2 d))
      obtain ⟨y1, y2, _⟩ := bestR_some q1
      exact ⟨⟨⟨x, y1, y2⟩, hb5⟩, q2.trans (hml _ _ q1)⟩
  · rintro ⟨⟨⟨x, q1, q2⟩, q3⟩, q4⟩
    obtain ⟨y, hy⟩ := bestR_there q1 q2
    exact ⟨y, by rw [hadds, if_neg (fun c => (hgone _).1 c q3)]; exact hy, q4.trans (hml _ _ hy).symm⟩
theorem most_next {l : List Itm} {v : Int} {x : Itm} (hx : x ∈ l) (h : 1 ≤ nextK v x) : mostOf 0 (nextK v) l = nextOf v l := by
  have a := mostFold (nextK v) l 0
  have b := mostFold (nextK v) l 1
  have a1 := a.2.1 x hx
  have b1 := b.2.1 x hx
  unfold nextOf mostOf
  rcases a.2.2 with e | ⟨y, hy, e⟩
  · omega
  · have b2 := b.2.1 y hy
    rcases b.2.2 with e' | ⟨z, hz, e'⟩
    · omega
    · have a2 := a.2.1 z hz
      omega
theorem box_fin {l : List Itm} (hok : ∀ x ∈ l, itOk x) {v : Int} {t : Tb} (h : finT l v = some t) (hs : 0 < t.named.1) {ms : List Ml} (h1 : ∀ m, m ∈ ms ↔ ∃ x, t.adds m.uid = some x ∧ m = mlOf t m.uid x) (h2 : ms.Pairwise (fun x y => x.uid < y.uid)) :
    (⟨t.named.2.valid, t.named.2.user, t.named.2.name, t.next, ms⟩ : Bx) = boxK l v := by
  obtain ⟨ht, hd⟩ := finT_some h
  have hms := mails_fin v ht h1 h2
  cases e : tellO v l with
  | none =>
    have : t.named.1 = 0 := by rw [ht]; unfold lessA fmT; simp [e]
    omega
  | some y =>
    have hn : t.named = y := by rw [ht]; unfold lessA fmT; simp [e]
    obtain ⟨y1, y2, y3⟩ := tellO_some e
    have hnx : 1 ≤ nextK v y := by
      unfold nextK
      rw [if_pos y3, if_pos y2]
      have := (hok y y1).2.2.2.1
      rw [if_pos y2] at this
      exact this.2.2.1
    have hnext : t.next = nextOf v l := by rw [ht]; exact most_next y1 hnx
    unfold boxK
    rw [e, hn, hnext, hms, y3]
    rfl

end Go.Proofs.YtgcnebepklelpaaGreat

/- A list of the call's own, sorted by the library. -/
namespace Go.Proofs.YtgcnebepklelpaaGreat
open Go.RowKit Go.Sort

theorem wpList_make_cap {α : Type} {w : World} {ops : Array Oper} {rest : List Oper} {o : Oper} {a : Act} {Q : Exit → Act → World → Prop} (hg : o.guard = none) (x c : Operand) (E : Enc α) (hop : o.op = Op.makeSlice E.sty x c)
    (kl kc : IntKind) (C : Int) (n : Nat) (hl : a.eval x = .int kl 0) (hc : a.eval c = .int kc C) (hC : C = (n : Int)) (hn : (E.bytes + 1) * n ≤ 281474976710656)
    (h : ∀ w', RBuf E w.heap.size w w' (.slice (some ⟨w.heap.size, 0, none⟩) 0 n) [] → w.grownBy w' none → wpList Tryz.prog ops Q rest (a.put o.dst (.slice (some ⟨w.heap.size, 0, none⟩) 0 n)) w') : wpList Tryz.prog ops Q (o :: rest) a w := by
  obtain ⟨i0, hi, hz0, hz1, hz2⟩ := info_parts E.info
  have e0 : (E.bytes + 1) * n = E.bytes * n + n := Nat.succ_mul _ _
  refine wpList_make_own w hg x c E.sty hop w.heap.size E.ty i0 E.zero E.sz E.und hi hz0 hz1 kl kc C n hl hc hC (by rw [hz2]; omega) (by unfold maxLen; omega) (Nat.le_refl _) ?_
  intro w' hown hgrow
  exact h w' ⟨hown, (Below.refl _ _).grown hgrow (Nat.le_refl _) (fun k hk => by cases hk), hgrow.size⟩ hgrow

section
variable {α : Type} [Inhabited α] {E : Enc α} {B : Nat} {w0 w : World} {g cap : Nat} {l : List α}

theorem row_flat (E : Enc α) (l : List α) {t : Nat} (h : t < l.length * E.sz) : (E.row l)[t]? = some ((flatK E.f E.sz l.toArray)[t]!) := by
  have hp := E.pos
  have hj : t / E.sz < l.length := (Nat.div_lt_iff_lt_mul hp).2 h
  have hm : t % E.sz < E.sz := Nat.mod_lt _ hp
  have hx : l[t / E.sz]? = some l[t / E.sz] := List.getElem?_eq_getElem hj
  have h1 := E.row_at l (t / E.sz) _ hx (t % E.sz) hm
  rw [Nat.div_add_mod'] at h1
  rw [h1, get_flatK _ _ _ _ (by simpa using h)]
  have h2 : l.toArray[t / E.sz]! = l[t / E.sz] := by
    rw [getElem!_pos l.toArray (t / E.sz) (by simpa using hj)]; simp
  rw [h2, getElem!_pos _ _ (by rw [E.len]; exact hm), List.getElem?_eq_getElem (by rw [E.len]; exact hm)]

theorem RBuf.holdsK (h : RBuf E B w0 w (.slice (some ⟨g, 0, none⟩) l.length cap) l) : HoldsK E.f E.sz w g 0 l.toArray := by
  intro t ht
  rw [size_flatK] at ht
  have ht' : t < l.length * E.sz := by simpa using ht
  have hp := E.pos
  have hj : t / E.sz < l.length := (Nat.div_lt_iff_lt_mul hp).2 ht'
  have hm : t % E.sz < E.sz := Nat.mod_lt _ hp
  have hx : l[t / E.sz]? = some l[t / E.sz] := List.getElem?_eq_getElem hj
  refine ⟨?_, by rw [Nat.zero_add]; exact h.loose t⟩
  have h0 := row_flat E l ht'
  have h1 := E.row_at l (t / E.sz) _ hx (t % E.sz) hm
  rw [Nat.div_add_mod'] at h1
  rw [h1] at h0
  have h2 := h.cell rfl (t / E.sz) _ hx (t % E.sz) _ h0
  rw [Nat.div_add_mod'] at h2
  rw [Nat.zero_add]
  exact h2

theorem sorted_grown (E : Enc α) (w : World) (g n : Nat) (d : Array α) (os : Array Obj) : w.grownBy (sortWorldK E.f E.sz w g 0 n d os) (some g) := by
  refine ⟨rfl, rfl, rfl, by simp [sortWorldK, putRowK, grow, putRow, mapBlock, Sort.ahead], fun k hk hne => ?_⟩
  have : g ≠ k := fun e => hne (by rw [e])
  unfold sortWorldK putRowK
  rw [heap_grow_old _ _ (by simpa [putRow, mapBlock, Sort.ahead] using hk)]
  simp [putRow, mapBlock, Sort.ahead, Array.getElem?_modify, this]

theorem RBuf.sorted (h : RBuf E B w0 w (.slice (some ⟨g, 0, none⟩) l.length cap) l) {l' : List α} (hl : l'.length = l.length) (n : Nat) (os : Array Obj) :
    RBuf E B w0 (sortWorldK E.f E.sz w g 0 n l'.toArray os) (.slice (some ⟨g, 0, none⟩) l.length cap) l' := by
  have hg := sorted_grown E w g n l'.toArray os
  have hB : B ≤ g := (h.own.lt g rfl).1
  refine ⟨?_, h.bel.grown hg h.le (fun k hk => by cases hk; exact hB), Nat.le_trans h.le hg.size⟩
  rcases h.own.2 with ⟨e, _⟩ | ⟨g', cap', cur, e, hb', hb, h1, h2, h3, h4⟩
  · cases e
  · cases e
    rw [← hl]
    refine ⟨E.row_length l', .inr ⟨g, cap, putCells id 0 (flatK E.f E.sz l'.toArray) cur, rfl, hb', ?_, by omega, h2, by simp [putCells, h3], ?_⟩⟩
    · have hgl : g < w.heap.size := (Array.getElem?_eq_some_iff.1 hb).1
      unfold sortWorldK putRowK
      rw [heap_grow_old _ _ (by simpa [putRow, mapBlock, Sort.ahead] using hgl)]
      simp [putRow, mapBlock, Sort.ahead, Array.getElem?_modify, hb, onCells]
    · have hle : l'.length * E.sz ≤ cur.size := by rw [h3, hl]; exact Nat.mul_le_mul_right _ h1
      apply List.ext_getElem?
      intro t
      by_cases ht : t < l'.length * E.sz
      · rw [List.getElem?_take_of_lt ht, Array.getElem?_toList, row_flat E l' ht]
        simp [putCells, ht, show t < cur.size by omega]
      · rw [List.getElem?_take_eq_none (by omega), List.getElem?_eq_none (by rw [E.row_length]; omega)]
theorem perm_of {d d' : Array α} (h : PermIn 0 d.size d d') : d'.toList.Perm d.toList := by
  have h1 := h.2.2
  have e1 : d'.extract 0 d.size = d' := by rw [← h.1]; simp
  have e2 : d.extract 0 d.size = d := by simp
  rwa [e1, e2] at h1
theorem sorted_of {lt : α → α → Bool} {d d' : Array α} (hs : d'.size = d.size) (h : SortedIn lt 0 d.size d') : d'.toList.Pairwise (fun x y => lt y x = false) := by
  rw [List.pairwise_iff_getElem]
  intro i j hi hj hij
  have hi' : i < d'.size := by simpa using hi
  have hj' : j < d'.size := by simpa using hj
  have := h i j (Nat.zero_le _) hij (by omega)
  rw [getElem!_pos d' j hj', getElem!_pos d' i hi'] at this
  simpa using this
end

end Go.Proofs.YtgcnebepklelpaaGreat

/- Mails and boxes: there is one of each. -/
namespace Go.Proofs.YtgcnebepklelpaaGreat

instance : Inhabited Ml := ⟨⟨0, 0, ⟨#[]⟩⟩⟩
instance : Inhabited BxH := ⟨⟨0, ⟨#[]⟩, ⟨#[]⟩, 0, none, 0, 0⟩⟩

end Go.Proofs.YtgcnebepklelpaaGreat

/- The mails of a box, in order. -/
namespace Go.Proofs.YtgcnebepklelpaaGreat
open Go.RowKit

def Coll (t : Tb) (todo : Int → Bool) (ms : List Ml) : Prop := (∀ m, m ∈ ms ↔ ∃ x, t.adds m.uid = some x ∧ todo m.uid = false ∧ m = mlOf t m.uid x) ∧ (ms.map (·.uid)).Nodup
theorem Coll.start (t : Tb) : Coll t (fun u => (t.adds u).isSome) [] := by
  refine ⟨fun m => ⟨fun h => (by cases h), ?_⟩, by simp⟩
  rintro ⟨x, h1, h2, _⟩
  dsimp only at h2
  rw [h1] at h2
  cases h2
theorem Coll.step {t : Tb} {todo : Int → Bool} {ms : List Ml} (h : Coll t todo ms) {u : Int} {x : Itm} (hu : todo u = true) (hx : t.adds u = some x) : Coll t (fun y => todo y && !decide (y = u)) (ms ++ [mlOf t u x]) := by
  have hn : ∀ m ∈ ms, m.uid ≠ u := fun m hm e => by
    obtain ⟨_, _, h2, _⟩ := (h.1 m).1 hm
    rw [e, hu] at h2
    cases h2
  refine ⟨fun m => ?_, ?_⟩
  · rw [List.mem_append, List.mem_singleton]
    constructor
    · rintro (hm | rfl)
      · obtain ⟨y, h1, h2, h3⟩ := (h.1 m).1 hm
        exact ⟨y, h1, by simp [h2], h3⟩
      · exact ⟨x, hx, by simp [mlOf], rfl⟩
    · rintro ⟨y, h1, h2, h3⟩
      by_cases e : m.uid = u
      · rw [e] at h1 h3
        rw [hx] at h1
        cases h1
        exact .inr h3
      · exact .inl ((h.1 m).2 ⟨y, h1, by simpa [e] using h2, h3⟩)
  · rw [List.map_append, List.nodup_append]
    refine ⟨h.2, by simp, fun a ha b hb => ?_⟩
    obtain ⟨m, hm, rfl⟩ := List.mem_map.1 ha
    simp at hb
    rw [hb]
    exact hn m hm

set_option maxRecDepth 100000 in
set_option maxHeartbeats 1000000 in
theorem byUid_any (x y : Ml) (W : World) : Calls Tryz.prog 89 #[.agg #[.int .i64 x.uid, .int .i64 x.flags, .string x.text], .agg #[.int .i64 y.uid, .int .i64 y.flags, .string y.text]] W fun e w' => e = .returned (.int .i64 (Lib.compareInt x.uid y.uid)) ∧ ∃ q os', w' = Sort.grow (W.drewN q) os' := by
  generalize hr : Lib.compareInt x.uid y.uid = r
  have hcon := fun W' => compare_any x.uid y.uid W'
  rw [hr] at hcon
  clear hr
  go_enter Tryz.func89, Tryz.ntmps89
  go_wp2_with (go_at_call 68; refine (hcon _).mono ?_; rintro e w' ⟨rfl, rfl⟩)
  go_ret
  exact ⟨rfl, 0, _, by rw [Sort.alloc_eq_grow, Sort.alloc_eq_grow, Sort.grow_grow]; rfl⟩
theorem ltUid (x y : Ml) : ltOf (fun x y : Ml => Lib.compareInt x.uid y.uid) x y = decide (x.uid < y.uid) := by
  unfold ltOf Lib.compareInt
  by_cases h1 : x.uid < y.uid
  · simp [h1]
  · by_cases h2 : y.uid < x.uid <;> simp [h1, h2]
theorem swoUid : Sort.SWO (ltOf fun x y : Ml => Lib.compareInt x.uid y.uid) where
  irrefl x := by rw [ltUid]; simp
  trans x y z h1 h2 := by rw [ltUid] at *; simp at *; omega
  ntrans x y z h1 h2 := by rw [ltUid] at *; simp at *; omega

set_option maxRecDepth 100000 in
set_option maxHeartbeats 1000000 in
theorem sortMails_any (l : List Ml) (B g cap : Nat) (w0 w : World) (h : RBuf mlE B w0 w (.slice (some ⟨g, 0, none⟩) l.length cap) l) (hl : l.length ≤ 1000000) :
    Calls Tryz.prog 88 #[.slice (some ⟨g, 0, none⟩) l.length cap, .func (.func 89) #[] #[]] w fun e w' => e = .returned (.tuple #[]) ∧ ∃ l', l'.Perm l ∧ l'.Pairwise (fun x y => ¬ y.uid < x.uid) ∧ RBuf mlE B w0 w' (.slice (some ⟨g, 0, none⟩) l.length cap) l' ∧ w.grownBy w' (some g) := by
  have eg : ∀ args w, (callFunc 89 args).run Tryz.prog w = .ok (.enter 89 args) w := enters_of Tryz.func89 (by kernel_rfl) rfl
  have hcmp : CmpLays Tryz.prog 89 #[] mlE.f 3 (fun x y : Ml => Lib.compareInt x.uid y.uid) g 0 l.toArray.size w := fun _ _ _ _ x y => byUid_any x y _
  have hcon := AnyQ.slices_SortFunc Tryz.sortMail 3 Tryz.isAgg110 Tryz.sizeOf110 mlE.f (fun _ => rfl) mlE.one (fun x y : Ml => Lib.compareInt x.uid y.uid) swoUid 89 #[] g 0 cap l.toArray w eg hcmp h.holdsK (h.own.lt g rfl).2 (by simp; omega)
  have hcon : Calls Tryz.prog 88 #[.slice (some ⟨g, 0, none⟩) l.length cap, .func (.func 89) #[] #[]] w _ := hcon
  refine hcon.mono ?_
  rintro e w' ⟨rfl, d', n, os, hp, hs, rfl⟩
  have hp' := perm_of hp
  have hs' := sorted_of hp.1 hs
  have hlen : d'.toList.length = l.length := hp'.length_eq
  refine ⟨rfl, d'.toList, hp', hs'.imp (fun {x y} h => ?_), ?_, ?_⟩
  · rw [ltUid] at h; simpa using h
  · have := h.sorted hlen n os
    rwa [Array.toArray_toList] at this
  · exact sorted_grown mlE w g n d' os

theorem MapIs.notRow {κ β α : Type} {P : Program} {K : KeyE P κ} {mk : β → Value} {w w0 : World} {b n B : Nat} {f : κ → Option β} {E : Enc α} {v : Value} {l : List α} (h : MapIs K mk w b n f) (hr : RBuf E B w0 w v l) : some b ≠ v.ownBlock := by
  obtain ⟨D, ⟨es, clock, e, _⟩, _⟩ := h
  rcases hr.own.2 with ⟨rfl, _⟩ | ⟨g, cap, cur, rfl, _, hb, _⟩
  · simp [Value.ownBlock]
  · intro e1
    have : b = g := by simpa [Value.ownBlock] using e1
    subst this
    rw [e] at hb
    cases hb
theorem MapGo.notRow {κ β α : Type} {P : Program} {K : KeyE P κ} {mk : β → Value} {w w0 : World} {b r n cnt B : Nat} {f : κ → Option β} {todo : κ → Bool} {E : Enc α} {v : Value} {l : List α} (h : MapGo K mk w b r n f todo cnt) (hr : RBuf E B w0 w v l) : some r ≠ v.ownBlock := by
  obtain ⟨D, left, ⟨es, clock, _, _, _, _, _, _, _, e, _⟩, _⟩ := h
  rcases hr.own.2 with ⟨rfl, _⟩ | ⟨g, cap, cur, rfl, _, hb, _⟩
  · simp [Value.ownBlock]
  · intro e1
    have : r = g := by simpa [Value.ownBlock] using e1
    subst this
    rw [e] at hb
    cases hb

theorem MapGo.notMap {κ β κ' β' : Type} {P : Program} {K : KeyE P κ} {mk : β → Value} {K' : KeyE P κ'} {mk' : β' → Value} {w : World} {b r n cnt b' n' : Nat} {f : κ → Option β} {todo : κ → Bool} {f' : κ' → Option β'} (h : MapGo K mk w b r n f todo cnt) (h' : MapIs K' mk' w b' n' f') : r ≠ b' := by
  obtain ⟨D, left, ⟨es, clock, _, _, _, _, _, _, _, e, _⟩, _⟩ := h
  obtain ⟨D', ⟨es', clock', e', _⟩, _⟩ := h'
  rintro rfl
  rw [e] at e'
  cases e'

structure MlG (w : World) (a r n : Nat) (t : Tb) (lv : Value) (ms : List Ml) (todo : Int → Bool) (cnt : Nat) (X : World) : Prop where
  row : RBuf mlE w.heap.size w X lv ms
  some' : ∃ k, lv.ownBlock = some k
  go : MapGo iK itmV X a r n t.adds todo cnt
  tb : TbAt X a n t
  coll : Coll t todo ms
  len : ms.length + cnt ≤ n
  rl : w.heap.size ≤ r

structure MlN (w : World) (a r n : Nat) (t : Tb) (lv : Value) (ms : List Ml) (todo : Int → Bool) (cnt : Nat) (X : World) : Prop where
  row : RBuf mlE w.heap.size w X lv ms
  go : MapGo iK itmV X a r n t.adds todo cnt
  tb : TbAt X a n t
theorem MlN.later {w : World} {a r n : Nat} {t : Tb} {lv : Value} {ms : List Ml} {todo : Int → Bool} {cnt : Nat} {X Y : World} (h : MlN w a r n t lv ms todo cnt X) (hb : Below X.heap.size X Y) : MlN w a r n t lv ms todo cnt Y := ⟨h.row.later hb, h.go.later hb, h.tb.later hb⟩
theorem MlN.of {w : World} {a r n : Nat} {t : Tb} {lv : Value} {ms : List Ml} {todo todo' : Int → Bool} {cnt cnt' : Nat} {X Y : World} (h : MlG w a r n t lv ms todo cnt X) (hg : X.grownBy Y (some r)) (hgo : MapGo iK itmV Y a r n t.adds todo' cnt') : MlN w a r n t lv ms todo' cnt' Y :=
  ⟨h.row.grown hg (by
      cases hv : lv.ownBlock with
      | none => exact .inl rfl
      | some k => exact .inr (fun e => h.go.notRow h.row (by rw [hv]; exact e.symm))) (fun k hk => by have := Option.some.inj hk; have := h.rl; omega), hgo,
    h.tb.kept hg (fun e => h.go.ne (Option.some.inj e).symm) (fun e => h.go.notMap h.tb.flags (Option.some.inj e).symm) (fun e => h.go.notBox h.tb.box (Option.some.inj e).symm)⟩
theorem MlG.of {w : World} {a r n : Nat} {t : Tb} {lv lv' : Value} {ms : List Ml} {todo : Int → Bool} {cnt cnt' : Nat} {X Y Z : World} {u : Int} {x : Itm} (h : MlN w a r n t lv ms (fun y => todo y && !decide (y = u)) cnt' Y) (hr : RBuf mlE w.heap.size Z Z lv' (ms ++ [mlOf t u x])) (hg : Y.grownBy Z lv.ownBlock) (hat : lv'.ownBlock = lv.ownBlock ∨ lv'.ownBlock = some Y.heap.size)
    (h0 : MlG w a r n t lv ms todo cnt X) (ht : todo u = true) (hx : t.adds u = some x) (hc : cnt' < cnt) : MlG w a r n t lv' (ms ++ [mlOf t u x]) (fun y => todo y && !decide (y = u)) cnt' Z := by
  have hb : Below w.heap.size w Z := h.row.bel.grown hg h.row.le (fun k hk => (h.row.own.lt k hk).1)
  refine ⟨⟨hr.own, hb, hr.le⟩, ?_, h.go.kept hg (h.tb.adds.notRow h.row) (h.go.notRow h.row), h.tb.kept hg (h.tb.adds.notRow h.row) (h.tb.flags.notRow h.row) ?_, h0.coll.step ht hx, ?_, h0.rl⟩
  · rcases hat with e | e
    · rw [e]; exact h0.some'
    · exact ⟨_, e⟩
  · intro e
    rcases h.row.own.2 with ⟨e1, _⟩ | ⟨g, cap, cur, e1, _, hb2, _⟩
    · rw [e1] at e; cases e
    · rw [e1] at e
      have hga : a + 2 = g := Option.some.inj e
      have hbx := h.tb.box
      unfold Box at hbx
      rw [hga, hb2] at hbx
      cases hbx
  · have := h0.len; simp; omega

set_option maxRecDepth 100000 in
set_option maxHeartbeats 8000000 in
theorem mails_any (t : Tb) (a n : Nat) (w : World) (h : TbAt w a n t) (hn : n ≤ 1000) (hdom : ∀ u x, t.adds u = some x → iK.ok u ∧ x.2.text.size ≤ 1000) :
    Calls Tryz.prog 65 #[.pointer (some ⟨a + 2, 0, none⟩)] w fun e w' => ∃ v ms, e = .returned v ∧ RBuf mlE w.heap.size w w' v ms ∧ (∀ m, m ∈ ms ↔ ∃ x, t.adds m.uid = some x ∧ m = mlOf t m.uid x) ∧ ms.Pairwise (fun x y => x.uid < y.uid) ∧ ms.length ≤ n := by
  obtain ⟨p0, p1, p2, p3, p4, p5, p6, p7, p8, p9, p10, p11⟩ := h.box.twelve
  obtain ⟨k, hk, hlen⟩ := h.adds.len (t := 87) Tryz.underlying87 3
  have HH := Lib.hid h
  have HDOM := Lib.hid hdom
  clear h hdom
  go_enter Tryz.func65, Tryz.ntmps65
  go_wp2_with (first | (at_make; refine wpList_make_cap rfl _ _ mlE rfl .i64 .i64 _ k rfl rfl rfl (by show 33 * k ≤ _; omega) ?_; intro w1 hr1 hg1; obtain ⟨_, _, _, _, _, _, _, _, _, _, s10, _⟩ := (HH.out.kept hg1 (by simp) (by simp) (by simp)).box.twelve) | (at_range; refine wpList_range_is rfl _ _ rfl iK itmV _ Tryz.underlying87 a n t.adds rfl (HH.out.kept hg1 (by simp) (by simp) (by simp)).adds ?_; intro w2 cnt0 hc0 hgo0 hg2 hs2))
  go_frame
  have I0 : MlG w a w1.heap.size n t (.slice (some ⟨w.heap.size, 0, none⟩) 0 k) [] (fun u => (t.adds u).isSome) cnt0 w2 := ⟨hr1.grown hg2 (.inr (by simp [Value.ownBlock])) (fun k hk => by cases hk), ⟨_, rfl⟩, hgo0, (HH.out.kept hg1 (by simp) (by simp) (by simp)).kept hg2 (by simp) (by simp) (by simp), Coll.start t, by simpa using hc0, hr1.le⟩
  generalize w1.heap.size = r at I0 ⊢
  clear hr1 hg1 hgo0 hg2 hs2 hc0 p0 p1 p2 p3 p4 p5 p6 p7 p8 p9 p10 p11 s10 hlen
  go_loopw [3] (fun lv wr => ∃ (ms : List Ml) (todo : Int → Bool) (cnt : Nat), MlG w a r n t lv ms todo cnt wr) (fun _ wr => wr.rangeLeft a r)
  case atStart => exact ⟨_, _, _, I0⟩
  case round =>
    clear I0
    obtain ⟨ms, todo, cnt, I⟩ := hrel
    obtain ⟨pl, cl, rfl⟩ := I.row.form
    have HI := Lib.hid I
    clear I
    go_wp2_with (at_next; refine wpList_next_is rfl _ rfl iK itmV itmV_inj a r n t.adds todo cnt rfl HI.out.go ?_ ?_)
    · intro hdone
      have HDN := Lib.hid hdone
      clear hdone
      obtain ⟨gk, hgk⟩ : ∃ gk : Nat, pl = some ⟨gk, 0, none⟩ := by
        obtain ⟨kk, hkk⟩ := HI.out.some'
        rcases HI.out.row.own.2 with ⟨e, _⟩ | ⟨g, cap, cur, e, _⟩
        · rw [e] at hkk; cases hkk
        · simp only [Value.slice.injEq] at e; exact ⟨g, e.1⟩
      subst hgk
      have HSO := Lib.hid (sortMails_any ms w.heap.size gk cl w _ HI.out.row (by have := HI.out.len; omega))
      go_wp2_with (go_at_call 88; refine HSO.out.mono ?_; rintro e w5 ⟨rfl, l5, hp5, hs5, hr5, hg5⟩)
      go_ret
      have hll : l5.length = ms.length := hp5.length_eq
      refine ⟨_, l5, rfl, by first | exact hr5 | (rw [hll]; exact hr5), fun m => ?_, ?_, by have := HI.out.len; omega⟩
      · rw [hp5.mem_iff, HI.out.coll.1 m]
        constructor
        · rintro ⟨x, h1, _, h3⟩; exact ⟨x, h1, h3⟩
        · rintro ⟨x, h1, h3⟩; exact ⟨x, h1, HDN.out _ (HDOM.out _ _ h1).1, h3⟩
      · have hnd : (l5.map (·.uid)).Nodup := (hp5.map (·.uid)).nodup_iff.2 HI.out.coll.2
        have hnd' : l5.Pairwise (fun x y => x.uid ≠ y.uid) := List.pairwise_map.1 hnd
        exact (hs5.and hnd').imp (fun {x y} h => by have := h.1; have := h.2; omega)
    · intro u sq rc wN cntN hku htodo hux hgoN hcntN hgN hsN hen
      replace hen : (Instr.entry (.pointer (some ⟨r, 0, none⟩))).run Tryz.prog wN = .ok (.tuple #[.int .i64 u, .agg #[.int .i64 sq, .int .i64 rc.kind, .int .i64 rc.valid, .int .i64 rc.uid, .int .i64 rc.next, .int .i64 rc.flags, .string rc.user, .string rc.name, .string rc.text]]) wN := hen
      rw [show iK.val u = .int .i64 u from rfl, show itmV (sq, rc) = .agg #[.int .i64 sq, .int .i64 rc.kind, .int .i64 rc.valid, .int .i64 rc.uid, .int .i64 rc.next, .int .i64 rc.flags, .string rc.user, .string rc.name, .string rc.text] from rfl]
      have GN : MlN w a r n t (.slice pl ms.length cl) ms (fun y => todo y && !decide (y = u)) cntN wN := MlN.of HI.out hgN hgoN
      have GX := GN.later (belNew wN (.cells #[.int .i64 sq, .int .i64 rc.kind, .int .i64 rc.valid, .int .i64 rc.uid, .int .i64 rc.next, .int .i64 rc.flags, .string rc.user, .string rc.name, .string rc.text] 69))
      have XX := Box.new wN #[.int .i64 sq, .int .i64 rc.kind, .int .i64 rc.valid, .int .i64 rc.uid, .int .i64 rc.next, .int .i64 rc.flags, .string rc.user, .string rc.name, .string rc.text] 69
      have HTD := Lib.hid htodo
      have HUX := Lib.hid hux
      have HKU := Lib.hid hku
      have HCN := Lib.hid hcntN
      clear GN hgoN hgN hsN htodo hux hku hcntN
      go_upto_region 5 with fail
      clear hen
      generalize wN.alloc (.cells #[.int .i64 sq, .int .i64 rc.kind, .int .i64 rc.valid, .int .i64 rc.uid, .int .i64 rc.next, .int .i64 rc.flags, .string rc.user, .string rc.name, .string rc.text] 69) = w4 at GX XX ⊢
      generalize wN.heap.size = gx at XX ⊢
      obtain ⟨q0, q1, q2, q3, q4, q5, q6, q7, q8, _⟩ := XX.nine
      obtain ⟨_, _, _, _, _, _, _, _, _, _, s10, s11⟩ := GX.tb.box.twelve
      have hcl := fun wx => clone_any rc.text wx (by have := (HDOM.out _ _ HUX.out).2; simp only at this; omega)
      have HCL := Lib.hid hcl
      clear hcl
      cases hf : t.flags u with
      | none =>
        have hlk := GX.tb.flags.look_gone (t := 87) Tryz.underlying87 (zero_item w4) HKU.out hf true
        replace hlk : (Instr.lookup 87 (.map (some (a + 1))) (.int .i64 u) true).run Tryz.prog w4 = .ok (.tuple #[.agg #[.int .i64 0, .int .i64 0, .int .i64 0, .int .i64 0, .int .i64 0, .int .i64 0, .string emp, .string emp, .string emp], .bool false]) w4 := hlk
        have HE : Hid (mlOf t u (sq, rc) = ⟨u, rc.flags, rc.text⟩) := by show _ = _; unfold mlOf; rw [hf]
        have G5 := GX.later (belNew w4 (.cells #[.int .i64 0, .int .i64 0, .int .i64 0, .int .i64 0, .int .i64 0, .int .i64 0, .string emp, .string emp, .string emp] 69))
        have X5 := XX.later (belNew w4 (.cells #[.int .i64 0, .int .i64 0, .int .i64 0, .int .i64 0, .int .i64 0, .int .i64 0, .string emp, .string emp, .string emp] 69))
        clear hf GX
        go_upto_region 9 with fail
        clear hlk q0 q1 q2 q3 q4 q5 q6 q7 q8 s10 s11 XX
        generalize w4.alloc (.cells #[.int .i64 0, .int .i64 0, .int .i64 0, .int .i64 0, .int .i64 0, .int .i64 0, .string emp, .string emp, .string emp] 69) = w5 at G5 X5 ⊢
        obtain ⟨q0, q1, q2, q3, q4, q5, q6, q7, q8, _⟩ := X5.nine
        have HG5 := Lib.hid G5
        clear X5 G5
        have hml : ms.length ≤ 1000 := by have := HI.out.len; omega
        have HLM : Hid (∀ X : World, RBuf mlE X.heap.size (X.alloc (.cells #[.int .i64 u, .int .i64 rc.flags, .string rc.text] 110)) (X.alloc (.cells #[.int .i64 u, .int .i64 rc.flags, .string rc.text] 110)) (.slice (some ⟨X.heap.size, 0, none⟩) 1 1) [⟨u, rc.flags, rc.text⟩]) := fun X => RBuf.lit1 mlE X ⟨u, rc.flags, rc.text⟩
        go_wp2_with (first
          | (go_at_call 64; refine (HCL.out _).mono ?_; rintro e w6 ⟨rfl, k6⟩)
          | (at_builtin; refine wpList_append_rows rfl _ _ mlE rfl w.heap.size _ _ rfl (((HG5.out.later k6).later (belNew w6 _)).row.here) w6.heap.size _ [⟨u, rc.flags, rc.text⟩] rfl (HLM.out w6) (by show _ * 33 ≤ _; simp only [List.length_cons, List.length_nil]; omega) ?_; intro v7 w7 r7 g7 at7))
        go_roundw
        case rel => exact ⟨_, _, _, MlG.of ((HG5.out.later k6).later (belNew w6 _)) (by rw [← HE.out] at r7; exact r7) g7 at7 HI.out HTD.out HUX.out HCN.out⟩
        case measure =>
          have h1 := (MlG.of ((HG5.out.later k6).later (belNew w6 _)) (by rw [← HE.out] at r7; exact r7) g7 at7 HI.out HTD.out HUX.out HCN.out).go.left_eq
          have h2 := HI.out.go.left_eq
          have := HCN.out
          omega
      | some y =>
        have hlk := GX.tb.flags.look_there (t := 87) Tryz.underlying87 (zero_item w4) HKU.out hf true
        replace hlk : (Instr.lookup 87 (.map (some (a + 1))) (.int .i64 u) true).run Tryz.prog w4 = .ok (.tuple #[.agg #[.int .i64 y.1, .int .i64 y.2.kind, .int .i64 y.2.valid, .int .i64 y.2.uid, .int .i64 y.2.next, .int .i64 y.2.flags, .string y.2.user, .string y.2.name, .string y.2.text], .bool true]) w4 := hlk
        have HE : Hid (mlOf t u (sq, rc) = ⟨u, y.2.flags, rc.text⟩) := by show _ = _; unfold mlOf; rw [hf]
        have G5 := GX.later (belNew w4 (.cells #[.int .i64 y.1, .int .i64 y.2.kind, .int .i64 y.2.valid, .int .i64 y.2.uid, .int .i64 y.2.next, .int .i64 y.2.flags, .string y.2.user, .string y.2.name, .string y.2.text] 69))
        have X5 := XX.later (belNew w4 (.cells #[.int .i64 y.1, .int .i64 y.2.kind, .int .i64 y.2.valid, .int .i64 y.2.uid, .int .i64 y.2.next, .int .i64 y.2.flags, .string y.2.user, .string y.2.name, .string y.2.text] 69))
        have Y5 := Box.new w4 #[.int .i64 y.1, .int .i64 y.2.kind, .int .i64 y.2.valid, .int .i64 y.2.uid, .int .i64 y.2.next, .int .i64 y.2.flags, .string y.2.user, .string y.2.name, .string y.2.text] 69
        clear hf GX
        go_upto_region 7 with fail
        clear hlk q0 q1 q2 q3 q4 q5 q6 q7 q8 s10 s11 XX
        generalize w4.alloc (.cells #[.int .i64 y.1, .int .i64 y.2.kind, .int .i64 y.2.valid, .int .i64 y.2.uid, .int .i64 y.2.next, .int .i64 y.2.flags, .string y.2.user, .string y.2.name, .string y.2.text] 69) = w5 at G5 X5 Y5 ⊢
        generalize w4.heap.size = gy at Y5 ⊢
        obtain ⟨q0, q1, q2, q3, q4, q5, q6, q7, q8, _⟩ := X5.nine
        obtain ⟨z0, z1, z2, z3, z4, z5, z6, z7, z8, _⟩ := Y5.nine
        have HG5 := Lib.hid G5
        clear X5 G5 Y5
        have hml : ms.length ≤ 1000 := by have := HI.out.len; omega
        have HLM : Hid (∀ X : World, RBuf mlE X.heap.size (X.alloc (.cells #[.int .i64 u, .int .i64 y.2.flags, .string rc.text] 110)) (X.alloc (.cells #[.int .i64 u, .int .i64 y.2.flags, .string rc.text] 110)) (.slice (some ⟨X.heap.size, 0, none⟩) 1 1) [⟨u, y.2.flags, rc.text⟩]) := fun X => RBuf.lit1 mlE X ⟨u, y.2.flags, rc.text⟩
        go_wp2_with (first
          | (go_at_call 64; refine (HCL.out _).mono ?_; rintro e w6 ⟨rfl, k6⟩)
          | (at_builtin; refine wpList_append_rows rfl _ _ mlE rfl w.heap.size _ _ rfl (((HG5.out.later k6).later (belNew w6 _)).row.here) w6.heap.size _ [⟨u, y.2.flags, rc.text⟩] rfl (HLM.out w6) (by show _ * 33 ≤ _; simp only [List.length_cons, List.length_nil]; omega) ?_; intro v7 w7 r7 g7 at7))
        go_roundw
        case rel => exact ⟨_, _, _, MlG.of ((HG5.out.later k6).later (belNew w6 _)) (by rw [← HE.out] at r7; exact r7) g7 at7 HI.out HTD.out HUX.out HCN.out⟩
        case measure =>
          have h1 := (MlG.of ((HG5.out.later k6).later (belNew w6 _)) (by rw [← HE.out] at r7; exact r7) g7 at7 HI.out HTD.out HUX.out HCN.out).go.left_eq
          have h2 := HI.out.go.left_eq
          have := HCN.out
          omega

end Go.Proofs.YtgcnebepklelpaaGreat

/- States held against each other, and right states, plainly. -/
namespace Go.Proofs.YtgcnebepklelpaaGreat

end Go.Proofs.YtgcnebepklelpaaGreat

/- States held against each other: the model's SameState. -/
namespace Go.Proofs.YtgcnebepklelpaaGreat
open Go.RowKit

theorem Box.five {w : World} {b : Nat} {u0 u1 u2 u3 u4 : Value} {t : TypeId} (h : Box w b #[u0, u1, u2, u3, u4] t) : w.cell? ⟨b, 0, none⟩ = some u0 ∧ w.cell? ⟨b, 1, none⟩ = some u1 ∧ w.cell? ⟨b, 2, none⟩ = some u2 ∧ w.cell? ⟨b, 3, none⟩ = some u3 ∧ w.cell? ⟨b, 4, none⟩ = some u4 :=
  ⟨h.cell 0 _ rfl, h.cell 1 _ rfl, h.cell 2 _ rfl, h.cell 3 _ rfl, h.cell 4 _ rfl⟩
def MlRow (w : World) (ad : Option Addr) (l : List Ml) : Prop := ∀ X, Below w.heap.size w X → ∀ i m, l[i]? = some m → ∃ g off, ad = some ⟨g, off, none⟩ ∧ X.cell? ⟨g, off + i * 3, none⟩ = some (.int .i64 m.uid) ∧ X.cell? ⟨g, off + i * 3 + 1, none⟩ = some (.int .i64 m.flags) ∧ X.cell? ⟨g, off + i * 3 + 2, none⟩ = some (.string m.text)
theorem MlRow.get {w : World} {ad : Option Addr} {l : List Ml} (h : MlRow w ad l) {X : World} (hb : Below w.heap.size w X) {i : Nat} {m : Ml} (hi : l[i]? = some m) : ∃ g off, ad = some ⟨g, off, none⟩ ∧ X.cell? ⟨g, off + i * 3, none⟩ = some (.int .i64 m.uid) ∧ X.cell? ⟨g, off + i * 3 + 1, none⟩ = some (.int .i64 m.flags) ∧ X.cell? ⟨g, off + i * 3 + 2, none⟩ = some (.string m.text) := h X hb i m hi
theorem Rows'.mails {w : World} {a : Option Addr} {n c : Nat} {l : List Ml} (h : Rows' mlE w (.slice a n c) l) : n = l.length ∧ MlRow w a l := by
  rcases h.ways with ⟨rfl, a, c, e⟩ | ⟨hne, g, off, c, e, hc, hg, hcl⟩
  · cases e
    exact ⟨rfl, fun X _ i x hi => by cases hi⟩
  · cases e
    exact ⟨rfl, fun X hb i x hi => ⟨g, off, rfl, ml_cells hcl hg hb i x hi⟩⟩

end Go.Proofs.YtgcnebepklelpaaGreat

/- What records tell: the model's BoxOf. -/
namespace Go.Proofs.YtgcnebepklelpaaGreat
open Go.RowKit

theorem RBuf.aside {α : Type} {E : Enc α} {B : Nat} {w : World} {v : Value} {l : List α} (h : RBuf E B w w v l) (g i : Nat) (u : Value) (hg : g < B) : RBuf E B (w.setCell ⟨g, i, none⟩ u) (w.setCell ⟨g, i, none⟩ u) v l := by
  refine h.shift (stored_grown w g i u) ?_
  cases hb : v.ownBlock with
  | none => exact .inl rfl
  | some k => exact .inr (fun e => by have := (h.own.lt k hb).1; have := Option.some.inj e; omega)
def set5 (w : World) (b : Nat) (v0 v1 v2 v3 v4 : Value) : World := ((((w.setCell ⟨b, 0, none⟩ v0).setCell ⟨b, 1, none⟩ v1).setCell ⟨b, 2, none⟩ v2).setCell ⟨b, 3, none⟩ v3).setCell ⟨b, 4, none⟩ v4


end Go.Proofs.YtgcnebepklelpaaGreat

/- A box out of what is gathered of it. -/
namespace Go.Proofs.YtgcnebepklelpaaGreat
open Go.RowKit

set_option maxRecDepth 100000 in
set_option maxHeartbeats 4000000 in
theorem box_any (t : Tb) (a n : Nat) (w : World) (h : TbAt w a n t) (hn : n ≤ 1000) (hdom : ∀ u x, t.adds u = some x → iK.ok u ∧ x.2.text.size ≤ 1000) (hu : t.named.2.user.size ≤ 1000) (hnm : t.named.2.name.size ≤ 1000) :
    Calls Tryz.prog 41 #[.pointer (some ⟨a + 2, 0, none⟩)] w fun e w' => ∃ (pm : Option Addr) (cm : Nat) (ms : List Ml), e = .returned (.agg #[.int .i64 t.named.2.valid, .string t.named.2.user, .string t.named.2.name, .int .i64 t.next, .slice pm ms.length cm]) ∧ RBuf mlE w.heap.size w' w' (.slice pm ms.length cm) ms ∧ Below w.heap.size w w' ∧ (∀ m, m ∈ ms ↔ ∃ x, t.adds m.uid = some x ∧ m = mlOf t m.uid x) ∧ ms.Pairwise (fun x y => x.uid < y.uid) ∧ ms.length ≤ n := by
  obtain ⟨⟨sq, K, V, U, N, FL, US, NM, TX⟩, nx, ad, fl⟩ := t
  simp only at hdom hu hnm ⊢
  have h0 := belNew w (.cells #[.int .i64 0, .string ⟨#[]⟩, .string ⟨#[]⟩, .int .i64 0, .slice none 0 0] 78)
  have B0 := Box.new w #[.int .i64 0, .string ⟨#[]⟩, .string ⟨#[]⟩, .int .i64 0, .slice none 0 0] 78
  have T0 := h.later h0
  have e0 : (w.alloc (.cells #[.int .i64 0, .string ⟨#[]⟩, .string ⟨#[]⟩, .int .i64 0, .slice none 0 0] 78)).heap.size = w.heap.size + 1 := by simp
  have la := h.box.lt
  obtain ⟨p0, p1, p2, p3, p4, p5, p6, p7, p8, p9, p10, p11⟩ := T0.box.twelve
  go_enter Tryz.func41, Tryz.ntmps41
  go_upto_region 1 with fail
  generalize w.alloc (.cells #[.int .i64 0, .string ⟨#[]⟩, .string ⟨#[]⟩, .int .i64 0, .slice none 0 0] 78) = w0 at h0 B0 T0 e0 p0 p1 p2 p3 p4 p5 p6 p7 p8 p9 p10 p11 ⊢
  have HE0 := Lib.hid e0
  clear e0
  have k1 := belNew w0 (.cells #[.int .i64 K, .int .i64 V, .int .i64 U, .int .i64 N, .int .i64 FL, .string US, .string NM, .string TX] 67)
  have X1 := Box.new w0 #[.int .i64 K, .int .i64 V, .int .i64 U, .int .i64 N, .int .i64 FL, .string US, .string NM, .string TX] 67
  have B1 := B0.later k1
  have T1 := T0.later k1
  have h1 := h0.trans (k1.mono h0.size)
  go_upto_region 2 with fail
  clear p0 p1 p2 p3 p4 p5 p6 p7 p8 p9 p10 p11
  generalize w0.alloc (.cells #[.int .i64 K, .int .i64 V, .int .i64 U, .int .i64 N, .int .i64 FL, .string US, .string NM, .string TX] 67) = w1 at k1 X1 B1 T1 h1 ⊢
  obtain ⟨gr, hgr⟩ : ∃ gr, w0.heap.size = gr := ⟨_, rfl⟩
  have hgr2 : gr = w.heap.size + 1 := by have := HE0.out; omega
  rw [hgr] at X1 ⊢
  obtain ⟨g, hg⟩ : ∃ g, w.heap.size = g := ⟨_, rfl⟩
  rw [hg] at B1
  have hg1 : g ≠ gr := by omega
  have hg2 : a + 2 < g := by omega
  have r1 : ∀ X, Kept g (g + 1) w1 X → X.cell? ⟨gr, 1, none⟩ = some (.int .i64 V) := fun X hX => by
    have hB : Box X gr #[.int .i64 K, .int .i64 V, .int .i64 U, .int .i64 N, .int .i64 FL, .string US, .string NM, .string TX] 67 := (hX.block gr X1.lt (by omega)).trans X1
    exact hB.cell 1 _ rfl
  have r5 : ∀ X, Kept g (g + 1) w1 X → X.cell? ⟨gr, 5, none⟩ = some (.string US) := fun X hX => by
    have hB : Box X gr #[.int .i64 K, .int .i64 V, .int .i64 U, .int .i64 N, .int .i64 FL, .string US, .string NM, .string TX] 67 := (hX.block gr X1.lt (by omega)).trans X1
    exact hB.cell 5 _ rfl
  have r6 : ∀ X, Kept g (g + 1) w1 X → X.cell? ⟨gr, 6, none⟩ = some (.string NM) := fun X hX => by
    have hB : Box X gr #[.int .i64 K, .int .i64 V, .int .i64 U, .int .i64 N, .int .i64 FL, .string US, .string NM, .string TX] 67 := (hX.block gr X1.lt (by omega)).trans X1
    exact hB.cell 6 _ rfl
  have HTX : Hid (∀ X, Kept g (g + 1) w1 X → TbAt X a n ⟨(sq, ⟨K, V, U, N, FL, US, NM, TX⟩), nx, ad, fl⟩) := fun X hX => T1.same (hX.block a T1.adds.lt (by omega)) (hX.block (a + 1) T1.flags.lt (by omega)) (hX.block (a + 2) T1.box.lt (by omega))
  have rn : ∀ X, Kept g (g + 1) w1 X → X.cell? ⟨a + 2, 9, none⟩ = some (.int .i64 nx) := fun X hX => (HTX.out X hX).box.cell 9 _ rfl
  have HML : Hid (∀ X, Kept g (g + 1) w1 X → _) := fun X hX => mails_any ⟨(sq, ⟨K, V, U, N, FL, US, NM, TX⟩), nx, ad, fl⟩ a n X (HTX.out X hX) hn hdom
  have HCU := Lib.hid (fun wx => clone_any US wx (by omega))
  have HCN := Lib.hid (fun wx => clone_any NM wx (by omega))
  have HBX : Hid (∀ X, Below w1.heap.size w1 X → Box X g #[.int .i64 0, .string ⟨#[]⟩, .string ⟨#[]⟩, .int .i64 0, .slice none 0 0] 78) := fun X hX => B1.later hX
  have HH1 := Lib.hid h1
  have HG := Lib.hid hg
  have HGS : Hid (g < w1.heap.size) := B1.lt
  have hbelow : Below w1.heap.size w1 w1.drew := (Below.refl _ _).drew
  rw [hg]
  clear X1 B1 T1 T0 B0 h0 h1 k1 hgr hgr2 hg hg1 hg2 la h hdom
  refine wp_region_held_drew (S := fun x => Kept g (g + 1) w1 x) (by kernel_rfl) ((Kept.of_below (Below.refl _ _) _ _).drew) (fun hHeld => ?_)
  refine takeL (i := 0) (v := .pointer (some ⟨gr, 1, none⟩)) rfl (by kernel_rfl) (by kernel_rfl) (by kernel_rfl) (fun _ _ _ h => h) (Or.inl ⟨by rfl, ?_⟩) (by assumption) ?_
  · intro x hSx; go_simp
  try simp only [Act.put, List.setIfInBounds_toArray, List.set_cons_zero, List.set_cons_succ]
  refine takeL (i := 1) (v := .int .i64 V) rfl (by kernel_rfl) (by kernel_rfl) (by kernel_rfl) (fun _ _ _ h => h) (Or.inl ⟨by rfl, ?_⟩) (by assumption) ?_
  · intro x hSx; have q0 := r1 x hSx; go_simp
  try simp only [Act.put, List.setIfInBounds_toArray, List.set_cons_zero, List.set_cons_succ]
  refine takeL (i := 2) (v := .pointer (some ⟨gr, 5, none⟩)) rfl (by kernel_rfl) (by kernel_rfl) (by kernel_rfl) (fun _ _ _ h => h) (Or.inl ⟨by rfl, ?_⟩) (by assumption) ?_
  · intro x hSx; go_simp
  try simp only [Act.put, List.setIfInBounds_toArray, List.set_cons_zero, List.set_cons_succ]
  refine takeL (i := 3) (v := .string US) rfl (by kernel_rfl) (by kernel_rfl) (by kernel_rfl) (fun _ _ _ h => h) (Or.inl ⟨by rfl, ?_⟩) (by assumption) ?_
  · intro x hSx; have q0 := r5 x hSx; go_simp
  try simp only [Act.put, List.setIfInBounds_toArray, List.set_cons_zero, List.set_cons_succ]
  refine takeL (i := 5) (v := .pointer (some ⟨gr, 6, none⟩)) rfl (by kernel_rfl) (by kernel_rfl) (by kernel_rfl) (fun _ _ _ h => h) (Or.inl ⟨by rfl, ?_⟩) (by assumption) ?_
  · intro x hSx; go_simp
  try simp only [Act.put, List.setIfInBounds_toArray, List.set_cons_zero, List.set_cons_succ]
  refine takeL (i := 6) (v := .string NM) rfl (by kernel_rfl) (by kernel_rfl) (by kernel_rfl) (fun _ _ _ h => h) (Or.inl ⟨by rfl, ?_⟩) (by assumption) ?_
  · intro x hSx; have q0 := r6 x hSx; go_simp
  try simp only [Act.put, List.setIfInBounds_toArray, List.set_cons_zero, List.set_cons_succ]
  refine takeL (i := 8) (v := .pointer (some ⟨a + 2, 0, none⟩)) rfl (by kernel_rfl) (by kernel_rfl) (by kernel_rfl) (fun _ _ _ h => h) (Or.inl ⟨by rfl, ?_⟩) (by assumption) ?_
  · intro x hSx; go_simp
  try simp only [Act.put, List.setIfInBounds_toArray, List.set_cons_zero, List.set_cons_succ]
  refine takeL (i := 9) (v := .pointer (some ⟨a + 2, 0, none⟩)) rfl (by kernel_rfl) (by kernel_rfl) (by kernel_rfl) (fun _ _ _ h => h) (Or.inl ⟨by rfl, ?_⟩) (by assumption) ?_
  · intro x hSx; go_simp
  try simp only [Act.put, List.setIfInBounds_toArray, List.set_cons_zero, List.set_cons_succ]
  refine takeL (i := 10) (v := .pointer (some ⟨a + 2, 9, none⟩)) rfl (by kernel_rfl) (by kernel_rfl) (by kernel_rfl) (fun _ _ _ h => h) (Or.inl ⟨by rfl, ?_⟩) (by assumption) ?_
  · intro x hSx; go_simp
  try simp only [Act.put, List.setIfInBounds_toArray, List.set_cons_zero, List.set_cons_succ]
  refine takeL (i := 11) (v := .int .i64 nx) rfl (by kernel_rfl) (by kernel_rfl) (by kernel_rfl) (fun _ _ _ h => h) (Or.inl ⟨by rfl, ?_⟩) (by assumption) ?_
  · intro x hSx; have q0 := rn x hSx; go_simp
  try simp only [Act.put, List.setIfInBounds_toArray, List.set_cons_zero, List.set_cons_succ]
  refine takeL (i := 12) (v := .pointer (some ⟨a + 2, 0, none⟩)) rfl (by kernel_rfl) (by kernel_rfl) (by kernel_rfl) (fun _ _ _ h => h) (Or.inl ⟨by rfl, ?_⟩) (by assumption) ?_
  · intro x hSx; go_simp
  try simp only [Act.put, List.setIfInBounds_toArray, List.set_cons_zero, List.set_cons_succ]
  refine wpAnyH_ready (rs := [4]) (by kernel_rfl) (by simp) ?_
  refine readyOne rfl (fun K' hK => ?_)
  go_simp
  refine (HCU.out _).mono ?_
  rintro e wT4 ⟨rfl, k4⟩
  go_wp2_with fail
  refine hK.out _ _ (hHeld.trans (Kept.of_below k4 _ _)) (fun hS2 => ?_)
  clear hK K' hHeld
  have hHeld := hS2
  clear hS2
  try simp only [Act.put, List.setIfInBounds_toArray, List.set_cons_zero, List.set_cons_succ]
  refine wpAnyH_ready (rs := [7]) (by kernel_rfl) (by simp) ?_
  refine readyOne rfl (fun K' hK => ?_)
  go_simp
  refine (HCN.out _).mono ?_
  rintro e wT7 ⟨rfl, k7⟩
  go_wp2_with fail
  refine hK.out _ _ (hHeld.trans (Kept.of_below k7 _ _)) (fun hS2 => ?_)
  clear hK K' hHeld
  have hHeld := hS2
  clear hS2
  try simp only [Act.put, List.setIfInBounds_toArray, List.set_cons_zero, List.set_cons_succ]
  refine wpAnyH_ready (rs := [13]) (by kernel_rfl) (by simp) ?_
  refine readyOne rfl (fun K' hK => ?_)
  go_simp
  refine (HML.out _ hHeld).mono ?_
  rintro e wT13 ⟨mv, ms, rfl, RM, hm1, hm2, hm3⟩
  go_wp2_with fail
  refine hK.out _ _ (hHeld.trans (Kept.of_below RM.bel _ _)) (fun hS2 => ?_)
  clear hK K' hHeld
  have hHeld := hS2
  clear hS2
  try simp only [Act.put, List.setIfInBounds_toArray, List.set_cons_zero, List.set_cons_succ]
  obtain ⟨pm, cm, rfl⟩ := RM.form
  refine takeL (i := 14) (v := .agg #[.int .i64 V, .string US, .string NM, .int .i64 nx, .slice pm ms.length cm]) rfl (by kernel_rfl) (by kernel_rfl) (by kernel_rfl) (fun _ _ _ h => h) (Or.inl ⟨by rfl, ?_⟩) (by assumption) ?_
  · intro x hSx; go_simp
  try simp only [Act.put, List.setIfInBounds_toArray, List.set_cons_zero, List.set_cons_succ]
  have kT : Below w1.heap.size w1 wT13 := (hbelow.trans (k4.trans (k7.mono k4.size))).trans (RM.bel.mono (Nat.le_trans (Nat.le_trans hbelow.size k4.size) k7.size))
  have BT := HBX.out _ kT
  have HS5 : Hid (Kept g (g + 1) w1 (set5 wT13 g (.int .i64 V) (.string US) (.string NM) (.int .i64 nx) (.slice pm ms.length cm))) := ((((hHeld.store g 0 _ (by omega) (by omega)).store g 1 _ (by omega) (by omega)).store g 2 _ (by omega) (by omega)).store g 3 _ (by omega) (by omega)).store g 4 _ (by omega) (by omega)
  have HGT : Hid (g < wT7.heap.size) := Nat.lt_of_lt_of_le HGS.out (Nat.le_trans hbelow.size (Nat.le_trans k4.size k7.size))
  have L5 : Box (set5 wT13 g (.int .i64 V) (.string US) (.string NM) (.int .i64 nx) (.slice pm ms.length cm)) g #[.int .i64 V, .string US, .string NM, .int .i64 nx, .slice pm ms.length cm] 78 := ((((BT.set 0 _).set 1 _).set 2 _).set 3 _).set 4 _
  have HR5 : Hid (RBuf mlE wT7.heap.size (set5 wT13 g (.int .i64 V) (.string US) (.string NM) (.int .i64 nx) (.slice pm ms.length cm)) (set5 wT13 g (.int .i64 V) (.string US) (.string NM) (.int .i64 nx) (.slice pm ms.length cm)) (.slice pm ms.length cm) ms) := ((((RM.here.aside g 0 _ HGT.out).aside g 1 _ HGT.out).aside g 2 _ HGT.out).aside g 3 _ HGT.out).aside g 4 _ HGT.out
  have HB5 : Hid (Below g w (set5 wT13 g (.int .i64 V) (.string US) (.string NM) (.int .i64 nx) (.slice pm ms.length cm))) := by
    have h0 : Below w.heap.size w wT13 := HH1.out.trans (kT.mono HH1.out.size)
    rw [HG.out] at h0
    exact ((((h0.setCell (p := ⟨g, 0, none⟩) (Nat.le_refl _) _).setCell (p := ⟨g, 1, none⟩) (Nat.le_refl _) _).setCell (p := ⟨g, 2, none⟩) (Nat.le_refl _) _).setCell (p := ⟨g, 3, none⟩) (Nat.le_refl _) _).setCell (p := ⟨g, 4, none⟩) (Nat.le_refl _) _
  have hgT : g ≤ wT7.heap.size := Nat.le_of_lt HGT.out
  unfold set5 at HS5 L5 HR5 HB5
  obtain ⟨z0, z1, z2, z3, z4⟩ := L5.five
  obtain ⟨u0, u1, u2, u3, u4⟩ := BT.five
  have f0 := BT.loose 0
  have f1 := BT.loose 1
  have f2 := BT.loose 2
  have f3 := BT.loose 3
  have f4 := BT.loose 4
  have HM1 := Lib.hid hm1
  have HM2 := Lib.hid hm2
  clear L5 BT kT RM k4 k7 hbelow hm1 hm2
  refine wpAnyH_ready (rs := [15]) (by kernel_rfl) (by simp) ?_
  refine readyOne rfl (fun K' hK => ?_)
  go_simp
  refine hK.out _ _ HS5.out (fun hS2 => ?_)
  clear hK K' hHeld hS2
  try simp only [Act.put, List.setIfInBounds_toArray, List.set_cons_zero, List.set_cons_succ]
  refine wpAnyH_done (by kernel_rfl) ?_ _
  go_wp2
  refine bodyPost_ret (v := .agg #[.int .i64 V, .string US, .string NM, .int .i64 nx, .slice pm ms.length cm]) (by simp [results, Tryz.results41, go_sem, z0, z1, z2, z3, z4]) rfl ⟨pm, cm, ms, rfl, ?_, ?_, HM1.out, HM2.out, hm3⟩
  · rw [HG.out]; exact HR5.out.lower hgT
  · rw [HG.out]; exact HB5.out

end Go.Proofs.YtgcnebepklelpaaGreat

/- What StateOf hands back. -/
namespace Go.Proofs.YtgcnebepklelpaaGreat
open Go.RowKit

def StateC (f : Nat) (l : List Itm) : Prop := ∀ (v : Value) (X : World), Rows' itE X v l → Calls Tryz.prog f #[v] X fun e w' => ∃ bv hs, e = .returned (.agg #[bv]) ∧ StO X.heap.size w' bv (stateL l) hs ∧ Below X.heap.size X w'

end Go.Proofs.YtgcnebepklelpaaGreat
