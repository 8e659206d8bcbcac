/- Texts of our own, joined. -/
import Derived.Test.YtjfilicddnhniabJa
import Derived.Test.YtjfilicddnhniabRows
import Derived.WalkKit
import Derived.Laws.BytesArg
import Derived.Maps.AppendAt
import Derived.Lib.ConvBytes
import Derived.Lib.Buffer
import Derived.Laws.Concat
import Derived.WalkSpells
import Derived.WalkSmall
import Derived.Deep.QuietTactic
import Derived.BigQuiet
import Derived.Deep.RegionHeld3
/- What records tell, plainly: whatever the order in which they lie, and however often one lies there. -/
namespace Go.Proofs.Ytjfilicddnhniab

/-- An item: its number and its record. -/
abbrev Itm := Int × Rc

/-- x stands ahead of y: by the key, and of two with one key by the number. -/
def aheadB (k : Itm → Int) (x y : Itm) : Bool := decide (k y < k x ∨ (k x = k y ∧ y.1 < x.1))

/-- One step of the choice. -/
def bestStep (k : Itm → Int) (p : Itm → Bool) (o : Option Itm) (x : Itm) : Option Itm :=
  if p x = true then (match o with
    | none => some x
    | some y => if aheadB k x y = true then some x else some y) else o
/-- The first of those that p takes. -/
def bestO (k : Itm → Int) (p : Itm → Bool) (l : List Itm) : Option Itm := l.foldl (bestStep k p) none

/-- What the choice has seen. -/
def BestI (k : Itm → Int) (p : Itm → Bool) (l : List Itm) (o : Option Itm) : Prop :=
  match o with
  | none => ∀ y ∈ l, p y = false
  | some x => x ∈ l ∧ p x = true ∧ ∀ y ∈ l, p y = true → k y < k x ∨ (k y = k x ∧ y.1 ≤ x.1)

theorem bestStep_I {k : Itm → Int} {p : Itm → Bool} {l : List Itm} {o : Option Itm} (h : BestI k p l o) (x : Itm) : BestI k p (l ++ [x]) (bestStep k p o x) := by
  unfold bestStep
  by_cases hp : p x = true
  · rw [if_pos hp]
    cases o with
    | none =>
      refine ⟨by simp, hp, fun y hy hpy => ?_⟩
      rcases List.mem_append.1 hy with hy | hy
      · rw [h y hy] at hpy; cases hpy
      · rw [List.mem_singleton.1 hy]; exact .inr ⟨rfl, Int.le_refl _⟩
    | some z =>
      obtain ⟨h1, h2, h3⟩ := h
      dsimp only
      by_cases ha : aheadB k x z = true
      · rw [if_pos ha]
        have ha := of_decide_eq_true ha
        refine ⟨by simp, hp, fun y hy hpy => ?_⟩
        rcases List.mem_append.1 hy with hy | hy
        · have := h3 y hy hpy; omega
        · rw [List.mem_singleton.1 hy]; exact .inr ⟨rfl, Int.le_refl _⟩
      · rw [if_neg ha]
        have ha : ¬ (k z < k x ∨ (k x = k z ∧ z.1 < x.1)) := fun c => ha (decide_eq_true c)
        refine ⟨List.mem_append_left _ h1, h2, fun y hy hpy => ?_⟩
        rcases List.mem_append.1 hy with hy | hy
        · exact h3 y hy hpy
        · rw [List.mem_singleton.1 hy]; omega
  · rw [if_neg hp]
    have hp : p x = false := by simpa using hp
    cases o with
    | none =>
      intro y hy
      rcases List.mem_append.1 hy with hy | hy
      · exact h y hy
      · rw [List.mem_singleton.1 hy]; exact hp
    | some z =>
      obtain ⟨h1, h2, h3⟩ := h
      refine ⟨List.mem_append_left _ h1, h2, fun y hy hpy => ?_⟩
      rcases List.mem_append.1 hy with hy | hy
      · exact h3 y hy hpy
      · rw [List.mem_singleton.1 hy, hp] at hpy; cases hpy

theorem bestFold_I {k : Itm → Int} {p : Itm → Bool} : ∀ (m l : List Itm) (o : Option Itm), BestI k p l o → BestI k p (l ++ m) (m.foldl (bestStep k p) o)
  | [], l, o, h => by rw [List.append_nil]; exact h
  | x :: m, l, o, h => by
    have := bestFold_I m (l ++ [x]) _ (bestStep_I h x)
    rw [List.append_assoc] at this
    exact this

theorem bestO_I (k : Itm → Int) (p : Itm → Bool) (l : List Itm) : BestI k p l (bestO k p l) := by
  have := bestFold_I (k := k) (p := p) l [] none (fun y hy => by cases hy)
  exact this

/-- No number lies twice with two records. -/
def Uniq (l : List Itm) : Prop := ∀ x ∈ l, ∀ y ∈ l, x.1 = y.1 → x = y

theorem BestI.same {k : Itm → Int} {p : Itm → Bool} {l m : List Itm} {o o' : Option Itm} (hu : Uniq l) (hm : ∀ x, x ∈ l ↔ x ∈ m) (h : BestI k p l o) (h' : BestI k p m o') : o = o' := by
  cases o with
  | none =>
    cases o' with
    | none => rfl
    | some y => have := h y ((hm y).2 h'.1); rw [h'.2.1] at this; cases this
  | some x =>
    cases o' with
    | none => have := h' x ((hm x).1 h.1); rw [h.2.1] at this; cases this
    | some y =>
      have a := h.2.2 y ((hm y).2 h'.1) h'.2.1
      have b := h'.2.2 x ((hm x).1 h.1) h.2.1
      rw [hu x h.1 y ((hm y).2 h'.1) (by omega)]

/-- The choice hangs on what lies there, not on where. -/
theorem bestO_same {k : Itm → Int} {p : Itm → Bool} {l m : List Itm} (hu : Uniq l) (hm : ∀ x, x ∈ l ↔ x ∈ m) : bestO k p l = bestO k p m :=
  (bestO_I k p l).same hu hm (bestO_I k p m)

/-- A number put into its place. -/
def insI (l : List Int) (x : Int) : List Int := l.filter (fun y => decide (y < x)) ++ (x :: l.filter (fun y => decide (x < y)))
theorem mem_insI {l : List Int} {x y : Int} : y ∈ insI l x ↔ y = x ∨ y ∈ l := by
  unfold insI
  simp only [List.mem_append, List.mem_cons, List.mem_filter, decide_eq_true_eq]
  constructor
  · rintro (⟨h, _⟩ | h | ⟨h, _⟩)
    · exact .inr h
    · exact .inl h
    · exact .inr h
  · rintro (h | h)
    · exact .inr (.inl h)
    · by_cases h1 : y < x
      · exact .inl ⟨h, h1⟩
      · by_cases h2 : x < y
        · exact .inr (.inr ⟨h, h2⟩)
        · exact .inr (.inl (by omega))
theorem insI_up {l : List Int} {x : Int} (h : l.Pairwise (· < ·)) : (insI l x).Pairwise (· < ·) := by
  unfold insI
  rw [List.pairwise_append]
  refine ⟨h.filter _, ?_, ?_⟩
  · rw [List.pairwise_cons]
    exact ⟨fun y hy => by simpa using (List.mem_filter.1 hy).2, h.filter _⟩
  · intro a ha b hb
    have ha := (List.mem_filter.1 ha).2
    simp only [decide_eq_true_eq] at ha
    rcases List.mem_cons.1 hb with rfl | hb
    · exact ha
    · have hb := (List.mem_filter.1 hb).2
      simp only [decide_eq_true_eq] at hb
      omega

/-- Two rising rows of the same numbers are one. -/
theorem up_same : ∀ {l m : List Int}, l.Pairwise (· < ·) → m.Pairwise (· < ·) → (∀ x, x ∈ l ↔ x ∈ m) → l = m
  | [], [], _, _, _ => rfl
  | [], y :: m, _, _, h => by have := (h y).2 (by simp); cases this
  | x :: l, [], _, _, h => by have := (h x).1 (by simp); cases this
  | x :: l, y :: m, hl, hm, h => by
    rw [List.pairwise_cons] at hl hm
    have e : x = y := by
      rcases List.mem_cons.1 ((h x).1 (by simp)) with e | hx
      · exact e
      · rcases List.mem_cons.1 ((h y).2 (by simp)) with e | hy
        · exact e.symm
        · have := hl.1 y hy; have := hm.1 x hx; omega
    subst e
    rw [up_same hl.2 hm.2 (fun z => ?_)]
    constructor
    · intro hz
      rcases List.mem_cons.1 ((h z).1 (List.mem_cons_of_mem _ hz)) with e | hz'
      · have := hl.1 z hz; omega
      · exact hz'
    · intro hz
      rcases List.mem_cons.1 ((h z).2 (List.mem_cons_of_mem _ hz)) with e | hz'
      · have := hm.1 z hz; omega
      · exact hz'

/-- The numbers that f takes out of the items, rising. -/
def upOf (f : Itm → Option Int) (l : List Itm) : List Int := l.foldl (fun o x => match f x with | some n => insI o n | none => o) []
theorem upFold (f : Itm → Option Int) : ∀ (l : List Itm) (o : List Int), o.Pairwise (· < ·) →
    (l.foldl (fun o x => match f x with | some n => insI o n | none => o) o).Pairwise (· < ·) ∧
    ∀ n, n ∈ l.foldl (fun o x => match f x with | some n => insI o n | none => o) o ↔ n ∈ o ∨ ∃ x ∈ l, f x = some n
  | [], o, h => ⟨h, fun n => by simp⟩
  | x :: l, o, h => by
    rw [List.foldl_cons]
    cases hf : f x with
    | none =>
      obtain ⟨a, b⟩ := upFold f l o h
      refine ⟨a, fun n => ?_⟩
      rw [b n]
      constructor
      · rintro (h | ⟨y, hy, e⟩)
        · exact .inl h
        · exact .inr ⟨y, List.mem_cons_of_mem _ hy, e⟩
      · rintro (h | ⟨y, hy, e⟩)
        · exact .inl h
        · rcases List.mem_cons.1 hy with rfl | hy
          · rw [hf] at e; cases e
          · exact .inr ⟨y, hy, e⟩
    | some k =>
      obtain ⟨a, b⟩ := upFold f l (insI o k) (insI_up h)
      refine ⟨a, fun n => ?_⟩
      rw [b n, mem_insI]
      constructor
      · rintro ((rfl | h) | ⟨y, hy, e⟩)
        · exact .inr ⟨x, by simp, hf⟩
        · exact .inl h
        · exact .inr ⟨y, List.mem_cons_of_mem _ hy, e⟩
      · rintro (h | ⟨y, hy, e⟩)
        · exact .inl (.inr h)
        · rcases List.mem_cons.1 hy with rfl | hy
          · rw [hf] at e; cases e; exact .inl (.inl rfl)
          · exact .inr ⟨y, hy, e⟩
theorem upOf_up (f : Itm → Option Int) (l : List Itm) : (upOf f l).Pairwise (· < ·) := (upFold f l [] List.Pairwise.nil).1
theorem mem_upOf {f : Itm → Option Int} {l : List Itm} {n : Int} : n ∈ upOf f l ↔ ∃ x ∈ l, f x = some n := by
  have := (upFold f l [] List.Pairwise.nil).2 n
  rw [upOf, this]; simp
theorem upOf_same {f g : Itm → Option Int} {l m : List Itm} (hm : ∀ x, x ∈ l ↔ x ∈ m) (hf : ∀ x ∈ l, f x = g x) : upOf f l = upOf g m :=
  up_same (upOf_up f l) (upOf_up g m) (fun n => by
    rw [mem_upOf, mem_upOf]
    constructor
    · rintro ⟨x, hx, e⟩; exact ⟨x, (hm x).1 hx, by rw [← hf x hx]; exact e⟩
    · rintro ⟨x, hx, e⟩; exact ⟨x, (hm x).2 hx, by rw [hf x ((hm x).2 hx)]; exact e⟩)

/-- The greatest of what f takes out, and of b. -/
def mostOf (b : Int) (f : Itm → Int) (l : List Itm) : Int := l.foldl (fun n x => if n < f x then f x else n) b
theorem mostFold (f : Itm → Int) : ∀ (l : List Itm) (b : Int), b ≤ l.foldl (fun n x => if n < f x then f x else n) b ∧ (∀ x ∈ l, f x ≤ l.foldl (fun n x => if n < f x then f x else n) b) ∧
    (l.foldl (fun n x => if n < f x then f x else n) b = b ∨ ∃ x ∈ l, l.foldl (fun n x => if n < f x then f x else n) b = f x)
  | [], b => ⟨Int.le_refl _, fun x hx => (by cases hx), .inl rfl⟩
  | x :: l, b => by
    rw [List.foldl_cons]
    obtain ⟨a1, a2, a3⟩ := mostFold f l (if b < f x then f x else b)
    have hb : b ≤ (if b < f x then f x else b) ∧ f x ≤ (if b < f x then f x else b) ∧ ((if b < f x then f x else b) = b ∨ (if b < f x then f x else b) = f x) := by
      split
      · exact ⟨by omega, by omega, .inr rfl⟩
      · exact ⟨by omega, by omega, .inl rfl⟩
    refine ⟨Int.le_trans hb.1 a1, fun y hy => ?_, ?_⟩
    · rcases List.mem_cons.1 hy with rfl | hy
      · exact Int.le_trans hb.2.1 a1
      · exact a2 y hy
    · rcases a3 with e | ⟨y, hy, e⟩
      · rw [e]
        rcases hb.2.2 with h | h
        · exact .inl h
        · exact .inr ⟨x, by simp, h⟩
      · exact .inr ⟨y, List.mem_cons_of_mem _ hy, e⟩
theorem mostOf_same {b : Int} {f : Itm → Int} {l m : List Itm} (hm : ∀ x, x ∈ l ↔ x ∈ m) : mostOf b f l = mostOf b f m := by
  obtain ⟨a1, a2, a3⟩ := mostFold f l b
  obtain ⟨b1, b2, b3⟩ := mostFold f m b
  unfold mostOf
  have h1 : l.foldl (fun n x => if n < f x then f x else n) b ≤ m.foldl (fun n x => if n < f x then f x else n) b := by
    rcases a3 with e | ⟨x, hx, e⟩
    · rw [e]; exact b1
    · rw [e]; exact b2 x ((hm x).1 hx)
  have h2 : m.foldl (fun n x => if n < f x then f x else n) b ≤ l.foldl (fun n x => if n < f x then f x else n) b := by
    rcases b3 with e | ⟨x, hx, e⟩
    · rw [e]; exact a1
    · rw [e]; exact a2 x ((hm x).2 hx)
  omega

/-- A mail, and a box. -/
structure Ml where
  uid : Int
  flags : Int
  text : ByteArray
structure Bx where
  valid : Int
  user : ByteArray
  name : ByteArray
  next : Int
  mails : List Ml

/-- The record of a kind, a box and a mail with the greatest number. -/
def bestR (kind valid uid : Int) (l : List Itm) : Option Itm := bestO (fun _ => 0) (fun x => decide (x.2.kind = kind ∧ x.2.valid = valid ∧ x.2.uid = uid)) l
/-- The record of a box that tells its user and name. -/
def tellO (valid : Int) (l : List Itm) : Option Itm := bestO (fun x => x.2.next) (fun x => decide (x.2.kind = 1 ∧ x.2.valid = valid)) l
/-- What one record says of the next mail's number. -/
def nextK (valid : Int) (x : Itm) : Int := if x.2.valid = valid then (if x.2.kind = 1 then x.2.next else if x.2.kind = 3 ∨ x.2.kind = 5 then x.2.uid + 1 else 0) else 0
def nextOf (valid : Int) (l : List Itm) : Int := mostOf 1 (nextK valid) l
def uidK (valid : Int) (l : List Itm) (x : Itm) : Option Int := if x.2.kind = 3 ∧ x.2.valid = valid ∧ bestR 5 valid x.2.uid l = none then some x.2.uid else none
def mailK (valid : Int) (l : List Itm) (u : Int) : Ml :=
  ⟨u, ((bestR 4 valid u l).or (bestR 3 valid u l)).elim 0 (fun y => y.2.flags), (bestR 3 valid u l).elim emp (fun y => y.2.text)⟩
def mailsOf (valid : Int) (l : List Itm) : List Ml := (upOf (uidK valid l) l).map (mailK valid l)
def validK (l : List Itm) (x : Itm) : Option Int := if x.2.kind = 1 ∧ bestR 2 x.2.valid 0 l = none then some x.2.valid else none
def boxK (l : List Itm) (v : Int) : Bx := ⟨v, (tellO v l).elim emp (fun y => y.2.user), (tellO v l).elim emp (fun y => y.2.name), nextOf v l, mailsOf v l⟩
/-- Right items. -/
def itemsOk (l : List Itm) : Prop := (∀ x ∈ l, (1 ≤ x.1 ∧ x.1 ≤ 1000000000) ∧ x.2.ok) ∧ Uniq l ∧ l.length ≤ 200
/-- What right items tell. -/
def tellAll (l : List Itm) : List Bx := (upOf (validK l) l).map (boxK l)

theorem mailsOf_same {l m : List Itm} (hu : Uniq l) (hm : ∀ x, x ∈ l ↔ x ∈ m) (v : Int) : mailsOf v l = mailsOf v m := by
  have hb : ∀ k v u, bestR k v u l = bestR k v u m := fun k v u => bestO_same hu hm
  have e1 : uidK v l = uidK v m := by funext x; unfold uidK; rw [hb]
  have e2 : mailK v l = mailK v m := by funext u; unfold mailK; rw [hb, hb]
  unfold mailsOf
  rw [e2, e1, upOf_same hm (fun x _ => rfl)]
/-- All is told the same, in whatever order the records lie, and however often one lies there. -/
theorem tellAll_same {l m : List Itm} (hu : Uniq l) (hm : ∀ x, x ∈ l ↔ x ∈ m) : tellAll l = tellAll m := by
  have hb : ∀ k v u, bestR k v u l = bestR k v u m := fun k v u => bestO_same hu hm
  have ht : ∀ v, tellO v l = tellO v m := fun v => bestO_same hu hm
  have e1 : validK l = validK m := by funext x; unfold validK; rw [hb]
  have e2 : boxK l = boxK m := by funext v; unfold boxK nextOf; rw [ht, mailsOf_same hu hm, mostOf_same hm]
  unfold tellAll
  rw [e2, e1, upOf_same hm (fun x _ => rfl)]

theorem bestR_none {kind valid uid : Int} {l : List Itm} (h : bestR kind valid uid l = none) (x : Itm) (hx : x ∈ l) : ¬ (x.2.kind = kind ∧ x.2.valid = valid ∧ x.2.uid = uid) := by
  have := bestO_I (fun _ => 0) (fun x => decide (x.2.kind = kind ∧ x.2.valid = valid ∧ x.2.uid = uid)) l
  unfold bestR at h
  rw [h] at this
  exact of_decide_eq_false (this x hx)
theorem bestR_some {kind valid uid : Int} {l : List Itm} {x : Itm} (h : bestR kind valid uid l = some x) : x ∈ l ∧ (x.2.kind = kind ∧ x.2.valid = valid ∧ x.2.uid = uid) ∧ ∀ y ∈ l, y.2.kind = kind → y.2.valid = valid → y.2.uid = uid → y.1 ≤ x.1 := by
  have := bestO_I (fun _ => 0) (fun x => decide (x.2.kind = kind ∧ x.2.valid = valid ∧ x.2.uid = uid)) l
  unfold bestR at h
  rw [h] at this
  refine ⟨this.1, of_decide_eq_true this.2.1, fun y hy a b c => ?_⟩
  have := this.2.2 y hy (decide_eq_true ⟨a, b, c⟩)
  dsimp only at this
  omega
theorem bestR_there {kind valid uid : Int} {l : List Itm} {x : Itm} (hx : x ∈ l) (h : x.2.kind = kind ∧ x.2.valid = valid ∧ x.2.uid = uid) : ∃ y, bestR kind valid uid l = some y := by
  cases hb : bestR kind valid uid l with
  | none => exact absurd h (bestR_none hb x hx)
  | some y => exact ⟨y, rfl⟩

/-- The numbers of a box's mails: added, and not gone. -/
theorem mem_uids {v : Int} {l : List Itm} {n : Int} : n ∈ upOf (uidK v l) l ↔ (∃ x ∈ l, x.2.kind = 3 ∧ x.2.valid = v ∧ x.2.uid = n) ∧ bestR 5 v n l = none := by
  rw [mem_upOf]
  constructor
  · rintro ⟨x, hx, e⟩
    unfold uidK at e
    split at e
    · rename_i h
      cases e
      exact ⟨⟨x, hx, h.1, h.2.1, rfl⟩, h.2.2⟩
    · cases e
  · rintro ⟨⟨x, hx, a, b, rfl⟩, h⟩
    refine ⟨x, hx, ?_⟩
    unfold uidK
    rw [if_pos ⟨a, b, h⟩]
theorem mails_uids (v : Int) (l : List Itm) : (mailsOf v l).map (·.uid) = upOf (uidK v l) l := by
  unfold mailsOf
  rw [List.map_map]
  exact List.map_id' _
theorem mails_up (v : Int) (l : List Itm) : (mailsOf v l).Pairwise (fun a b => a.uid < b.uid) := by
  have := upOf_up (uidK v l) l
  rw [← mails_uids] at this
  exact List.pairwise_map.1 this
/-- A mail that is told was added; it is not gone; its number lies below the next one. -/
theorem mails_told {v : Int} {l : List Itm} {m : Ml} (h : m ∈ mailsOf v l) : m.uid < nextOf v l ∧ (∀ x ∈ l, ¬ (x.2.kind = 5 ∧ x.2.valid = v ∧ x.2.uid = m.uid)) := by
  have hu : m.uid ∈ upOf (uidK v l) l := by rw [← mails_uids]; exact List.mem_map_of_mem h
  obtain ⟨⟨x, hx, a, b, c⟩, hg⟩ := mem_uids.1 hu
  refine ⟨?_, fun y hy => bestR_none hg y hy⟩
  have := (mostFold (nextK v) l 1).2.1 x hx
  have e : nextK v x = x.2.uid + 1 := by
    unfold nextK
    rw [if_pos b, if_neg (by omega), if_pos (.inl a)]
  rw [e] at this
  unfold nextOf mostOf
  omega
theorem add_below {v : Int} {l : List Itm} {x : Itm} (hx : x ∈ l) (a : x.2.kind = 3) (b : x.2.valid = v) : x.2.uid < nextOf v l := by
  have := (mostFold (nextK v) l 1).2.1 x hx
  have e : nextK v x = x.2.uid + 1 := by
    unfold nextK
    rw [if_pos b, if_neg (by omega), if_pos (.inl a)]
  rw [e] at this
  unfold nextOf mostOf
  omega
/-- The boxes that are told: told of, and not dropped; their numbers rise. -/
theorem mem_valids {l : List Itm} {n : Int} : n ∈ upOf (validK l) l ↔ (∃ x ∈ l, x.2.kind = 1 ∧ x.2.valid = n) ∧ bestR 2 n 0 l = none := by
  rw [mem_upOf]
  constructor
  · rintro ⟨x, hx, e⟩
    unfold validK at e
    split at e
    · rename_i h
      cases e
      exact ⟨⟨x, hx, h.1, rfl⟩, h.2⟩
    · cases e
  · rintro ⟨⟨x, hx, a, rfl⟩, h⟩
    refine ⟨x, hx, ?_⟩
    unfold validK
    rw [if_pos ⟨a, h⟩]
theorem boxes_valids (l : List Itm) : (tellAll l).map (·.valid) = upOf (validK l) l := by
  unfold tellAll
  rw [List.map_map]
  exact List.map_id' _
theorem boxes_up (l : List Itm) : (tellAll l).Pairwise (fun a b => a.valid < b.valid) := by
  have := upOf_up (validK l) l
  rw [← boxes_valids] at this
  exact List.pairwise_map.1 this
theorem box_form {l : List Itm} {b : Bx} (h : b ∈ tellAll l) : b = boxK l b.valid := by
  obtain ⟨v, _, rfl⟩ := List.mem_map.1 h
  rfl
theorem box_kept {l : List Itm} {b : Bx} (h : b ∈ tellAll l) (x : Itm) (hx : x ∈ l) (hok : x.2.ok) (hv : x.2.valid = b.valid) : x.2.kind ≠ 2 := by
  intro hk
  have hu : b.valid ∈ upOf (validK l) l := by rw [← boxes_valids]; exact List.mem_map_of_mem h
  refine bestR_none (mem_valids.1 hu).2 x hx ⟨hk, hv, ?_⟩
  have h4 := hok.2.2.2.1
  split at h4 <;> omega

end Go.Proofs.Ytjfilicddnhniab

/- States held against each other, and right states, plainly. -/
namespace Go.Proofs.Ytjfilicddnhniab

/-- The same boxes. -/
noncomputable def sameS (ps bs : List Bx) : Bool := @decide (ps = bs) (Classical.propDecidable _)
theorem sameS_yes {ps bs : List Bx} (h : ps = bs) : sameS ps bs = true := @decide_eq_true _ (Classical.propDecidable _) h
theorem sameS_no {ps bs : List Bx} (h : ps ≠ bs) : sameS ps bs = false := @decide_eq_false _ (Classical.propDecidable _) h
theorem sameS_len {ps bs : List Bx} (h : ps.length ≠ bs.length) : sameS ps bs = false := sameS_no (fun e => h (by rw [e]))
theorem sameS_part {ps bs : List Bx} {i : Nat} {a b : Bx} (ha : ps[i]? = some a) (hb : bs[i]? = some b) (h : a ≠ b) : sameS ps bs = false := sameS_no (fun e => h (by rw [e, hb] at ha; exact (Option.some.inj ha).symm))
theorem sameS_all {ps bs : List Bx} (hl : ps.length = bs.length) (h : ∀ (i : Nat) (a b : Bx), ps[i]? = some a → bs[i]? = some b → a = b) : sameS ps bs = true :=
  sameS_yes (List.ext_getElem? fun i => by
    by_cases c : i < ps.length
    · have h1 : ps[i]? = some ps[i] := List.getElem?_eq_getElem c
      have h2 : bs[i]? = some (bs[i]'(by omega)) := List.getElem?_eq_getElem (by omega)
      rw [h1, h2, h i _ _ h1 h2]
    · rw [List.getElem?_eq_none (by omega), List.getElem?_eq_none (by omega)])
theorem bx_same {a b : Bx} (h1 : a.valid = b.valid) (h2 : a.user = b.user) (h3 : a.name = b.name) (h4 : a.next = b.next) (hl : a.mails.length = b.mails.length) (h : ∀ (k : Nat) (x y : Ml), a.mails[k]? = some x → b.mails[k]? = some y → x = y) : a = b := by
  obtain ⟨v, u, n, x, m⟩ := a
  obtain ⟨v', u', n', x', m'⟩ := b
  simp only at h1 h2 h3 h4 hl h
  subst h1 h2 h3 h4
  have : m = m' := List.ext_getElem? fun i => by
    by_cases c : i < m.length
    · have e1 : m[i]? = some m[i] := List.getElem?_eq_getElem c
      have e2 : m'[i]? = some (m'[i]'(by omega)) := List.getElem?_eq_getElem (by omega)
      rw [e1, e2, h i _ _ e1 e2]
    · rw [List.getElem?_eq_none (by omega), List.getElem?_eq_none (by omega)]
  rw [this]

end Go.Proofs.Ytjfilicddnhniab

/- Right states, plainly: what each round over the boxes asks. -/
namespace Go.Proofs.Ytjfilicddnhniab

def mlOk (nx : Int) (m : Ml) : Prop := (1 ≤ m.uid ∧ m.uid ≤ nx - 1) ∧ (0 ≤ m.flags ∧ m.flags ≤ 7) ∧ m.text.size ≤ 100
def bxOk (b : Bx) : Prop := (1 ≤ b.valid ∧ b.valid ≤ 9999) ∧ wdOk b.user ∧ wdOk b.name ∧ (1 ≤ b.next ∧ b.next ≤ 10000)
/-- The k-th mail of a box. -/
def MlAt (b : Bx) (k : Nat) : Prop := ∀ m, b.mails[k]? = some m → mlOk b.next m ∧ ∀ q, 0 < k → b.mails[k - 1]? = some q → q.uid < m.uid
/-- The i-th box. -/
def StAt (ps : List Bx) (i : Nat) : Prop := ∀ b, ps[i]? = some b → bxOk b ∧ (∀ p, 0 < i → ps[i - 1]? = some p → p.valid < b.valid) ∧ (∀ k y, k < i → ps[k]? = some y → ¬ (y.user = b.user ∧ y.name = b.name)) ∧ ∀ k, MlAt b k
def stOk (ps : List Bx) : Prop := ∀ i, StAt ps i
noncomputable def stB (ps : List Bx) : Bool := @decide (stOk ps) (Classical.propDecidable _)
theorem stB_yes {ps : List Bx} (h : stOk ps) : stB ps = true := @decide_eq_true _ (Classical.propDecidable _) h
theorem stB_no {ps : List Bx} {i : Nat} (h : ¬ StAt ps i) : stB ps = false := @decide_eq_false _ (Classical.propDecidable _) (fun c => h (c i))
theorem stB_all {ps : List Bx} (h : ∀ i, i < ps.length → StAt ps i) : stB ps = true := stB_yes fun i => by
  by_cases c : i < ps.length
  · exact h i c
  · intro b hb
    rw [List.getElem?_eq_none (by omega)] at hb
    cases hb
theorem stB_box {ps : List Bx} {i : Nat} {b : Bx} (h : ps[i]? = some b) (hb : ¬ bxOk b) : stB ps = false := stB_no fun c => hb (c b h).1
theorem stB_up {ps : List Bx} {i : Nat} {b p : Bx} (h : ps[i]? = some b) (hi : 0 < i) (hp : ps[i - 1]? = some p) (hb : ¬ p.valid < b.valid) : stB ps = false := stB_no fun c => hb ((c b h).2.1 p hi hp)
theorem stB_twice {ps : List Bx} {i k : Nat} {b y : Bx} (h : ps[i]? = some b) (hk : k < i) (hy : ps[k]? = some y) (hb : y.user = b.user ∧ y.name = b.name) : stB ps = false := stB_no fun c => (c b h).2.2.1 k y hk hy hb
theorem stB_mail {ps : List Bx} {i k : Nat} {b : Bx} {m : Ml} (h : ps[i]? = some b) (hm : b.mails[k]? = some m) (hb : ¬ mlOk b.next m) : stB ps = false := stB_no fun c => hb ((c b h).2.2.2 k m hm).1
theorem stB_mailUp {ps : List Bx} {i k : Nat} {b : Bx} {m q : Ml} (h : ps[i]? = some b) (hm : b.mails[k]? = some m) (hk : 0 < k) (hq : b.mails[k - 1]? = some q) (hb : ¬ q.uid < m.uid) : stB ps = false := stB_no fun c => hb (((c b h).2.2.2 k m hm).2 q hk hq)
/-- A round over the boxes that went well. -/
theorem StAt.of {ps : List Bx} {i : Nat} {b : Bx} (h : ps[i]? = some b) (h1 : bxOk b) (h2 : ∀ p, 0 < i → ps[i - 1]? = some p → p.valid < b.valid) (h3 : ∀ k y, k < i → ps[k]? = some y → ¬ (y.user = b.user ∧ y.name = b.name)) (h4 : ∀ k, k < b.mails.length → MlAt b k) : StAt ps i := by
  intro b' hb'
  rw [h] at hb'
  cases hb'
  refine ⟨h1, h2, h3, fun k => ?_⟩
  by_cases c : k < b.mails.length
  · exact h4 k c
  · intro m hm
    rw [List.getElem?_eq_none (by omega)] at hm
    cases hm
theorem MlAt.of {b : Bx} {k : Nat} {m : Ml} (h : b.mails[k]? = some m) (h1 : mlOk b.next m) (h2 : ∀ q, 0 < k → b.mails[k - 1]? = some q → q.uid < m.uid) : MlAt b k := by
  intro m' hm'
  rw [h] at hm'
  cases hm'
  exact ⟨h1, h2⟩

end Go.Proofs.Ytjfilicddnhniab

/- What a list of bytes is that a call builds in memory of its own, and the laws by which it grows and becomes a string. -/
namespace Go.Proofs.Ytjfilicddnhniab
open Go.RowKit

theorem Try.info_u8 : (Try.prog.info? 5).map (fun i => (i.zero, i.size, i.bytes)) = some (some (.int .u8 0), 1, 1) := by kernel_rfl

/-- The bytes as the cells of a row. -/
def bytesV (l : List UInt8) : List Value := l.map fun c => .int .u8 (c.toNat : Int)

theorem bytesV_length (l : List UInt8) : (bytesV l).length = l.length := by simp [bytesV]

/-- The slice v holds the bytes l in memory that the call made itself (blocks from B on); below B all is as it was in w0. -/
structure Buf (B : Nat) (w0 w : World) (v : Value) (l : List UInt8) : Prop where
  own : w.ownsRow B 5 1 v l.length (bytesV l)
  bel : Below B w0 w
  le : B ≤ w.heap.size

theorem Buf.alloc {B : Nat} {w0 w : World} {v : Value} {l : List UInt8} (h : Buf B w0 w v l) (o : Obj) : Buf B w0 (w.alloc o) v l :=
  ⟨h.own.alloc o, h.bel.alloc h.le o, by have := h.le; simp; omega⟩

theorem Buf.drew {B : Nat} {w0 w : World} {v : Value} {l : List UInt8} (h : Buf B w0 w v l) : Buf B w0 w.drew v l :=
  ⟨h.own.drew, h.bel.drew, h.le⟩

/-- An append of the bytes that lie at ad. -/
theorem wpList_append_bytes {w0 w : World} {ops : Array Oper} {rest : List Oper} {o : Oper} {a : Act} {Q : Exit → Act → World → Prop} (hgd : o.guard = none) (s x : Operand)
    (ho : o.op = .call { callee := .builtin .append, args := #[s, x], argTypes := #[113, 113] })
    (B : Nat) (v : Value) (l : List UInt8) (hs : a.eval s = v) (hb : Buf B w0 w v l)
    (ad : Addr) (news : List UInt8) (c : Nat) (hx : a.eval x = .slice (some ad) news.length c)
    (hnews : ∀ j u, (bytesV news)[j]? = some u → w.cell? (ad.add j) = some u)
    (hlen : l.length + news.length ≤ 140737488355328)
    (h : ∀ v' w', Buf B w0 w' v' (l ++ news) → wpList Try.prog ops Q rest (a.put o.dst v') w') : wpList Try.prog ops Q (o :: rest) a w := by
  obtain ⟨i0, hi, hz0, hz1, hz2⟩ := info_parts Try.info_u8
  refine wpList_append_own _ hgd s x 113 ho B 5 i0 (.int .u8 0) 1 1 Try.underlying113 hi hz0 hz1 hz2 rfl (by decide) v l.length (bytesV l) hs hb.own ad news.length c (bytesV news) hx (by simp [bytesV]) hnews ?_ (by unfold maxLen; omega) (by omega) hb.le ?_
  · intro u hu
    simp only [bytesV, List.mem_map] at hu
    obtain ⟨c, _, rfl⟩ := hu
    rfl
  · intro v' w' hown hgrow _
    refine h v' w' ⟨?_, hb.bel.grown hgrow hb.le (fun k hk => (hb.own.lt k hk).1), Nat.le_trans hb.le hgrow.size⟩
    have e1 : (l ++ news).length = l.length + news.length := by simp
    have e2 : bytesV (l ++ news) = bytesV l ++ bytesV news := by simp [bytesV]
    rw [e1, e2]
    exact hown

/-- A slice over a new row of no bytes yet. -/
theorem Buf.fresh (w : World) (cur : Array Value) (cap : Nat) (hs : cur.size = cap) (hm : cap ≤ maxLen) :
    Buf w.heap.size w (w.alloc (.cells cur 5)) (.slice (some ⟨w.heap.size, 0, none⟩) 0 cap) [] :=
  ⟨World.ownsRow_made w cur cap (Nat.le_refl _) hm (by omega), (Below.refl _ _).alloc (Nat.le_refl _) _, by simp⟩

/-- The one cell of a new block, as an append asks for it. -/
theorem one_new (w : World) (x : Int) (b : UInt8) (h : x = (b.toNat : Int)) :
    ∀ j u, (bytesV [b])[j]? = some u → (w.alloc (.cells #[.int .u8 x] 5)).cell? ((⟨w.heap.size, 0, none⟩ : Addr).add j) = some u := by
  subst h
  intro j u hj
  match j, hj with
  | 0, hj => simp [bytesV] at hj; subst hj; simp [Addr.add]
  | j + 1, hj => simp [bytesV] at hj

/-- string(b) of such bytes. -/
theorem Buf.toString {B : Nat} {w0 w : World} {v : Value} {l : List UInt8} (h : Buf B w0 w v l) :
    (convert 113 9 v).run Try.prog w = .ok (.string ⟨l.toArray⟩) w := by
  rcases h.own.2 with ⟨rfl, h0⟩ | ⟨g, cap, cur, rfl, hg, hh, hnc, hcp, hcs, htake⟩
  · obtain rfl := List.length_eq_zero_iff.1 h0
    exact run_convert_bytes_nil (P := Try.prog) w 113 5 Try.underlying113 Try.underlying5 0 0 9 Try.underlying9
  · refine run_convert_bytes_back (P := Try.prog) w 113 9 5 ⟨g, 0, none⟩ cap l Try.underlying113 Try.underlying5 Try.underlying9 fun j hj => ?_
    rw [Addr.add_lit, Nat.zero_add, h.own.cellAt j (by omega)]
    simp [bytesV, hj]

end Go.Proofs.Ytjfilicddnhniab

/- Appends to a list of bytes beside other memory of the call's own: what else lies there stays; inside a region that draws its order too; and the bytes of a string laid in a row of their own. -/
namespace Go.Proofs.Ytjfilicddnhniab
open Go.RowKit

/-- Behind an append from v to v': v' lies where v lay, or in a new block; every other block is as it was. -/
structure Keeps (w w' : World) (v v' : Value) : Prop where
  place : v'.ownBlock = v.ownBlock ∨ v'.ownBlock = some w.heap.size
  other : ∀ g, g < w.heap.size → some g ≠ v.ownBlock → w'.heap[g]? = w.heap[g]?
  size : w.heap.size ≤ w'.heap.size

theorem Keeps.block {w w' : World} {v v' : Value} (h : Keeps w w' v v') {g : Nat} {o : Obj} (hg : w.heap[g]? = some o) (ha : v.ownBlock ≠ some g) : w'.heap[g]? = some o ∧ v'.ownBlock ≠ some g := by
  have hlt : g < w.heap.size := by
    by_cases hh : g < w.heap.size
    · exact hh
    · rw [Array.getElem?_eq_none (by omega)] at hg; cases hg
  refine ⟨(h.other g hlt (Ne.symm ha)).trans hg, ?_⟩
  rcases h.place with e | e
  · rw [e]; exact ha
  · rw [e]; intro e2; have := Option.some.inj e2; omega

theorem heap_drew (w : World) (g : Nat) : (w.drew).heap[g]? = w.heap[g]? := rfl
theorem heap_alloc_some {w : World} {g : Nat} {o : Obj} (h : w.heap[g]? = some o) (x : Obj) : (w.alloc x).heap[g]? = some o := by
  have hlt : g < w.heap.size := by
    by_cases hh : g < w.heap.size
    · exact hh
    · rw [Array.getElem?_eq_none (by omega)] at h; cases h
  rw [Below.heap_alloc w x g hlt, h]

theorem run_append_bytes {w0 w : World} (ty : TypeId) (B : Nat) (v : Value) (l : List UInt8) (hb : Buf B w0 w v l)
    (ad : Addr) (news : List UInt8) (c : Nat) (hnews : ∀ j u, (bytesV news)[j]? = some u → w.cell? (ad.add j) = some u)
    (hlen : l.length + news.length ≤ 140737488355328) :
    ∃ v' w', (Builtin.append_ #[113, 113] ty #[v, .slice (some ad) news.length c]).run Try.prog w = .ok v' w' ∧ Buf B w0 w' v' (l ++ news) ∧ Keeps w w' v v' := by
  obtain ⟨i0, hi, hz0, hz1, hz2⟩ := info_parts Try.info_u8
  obtain ⟨v', w', h1, h2, h3, _, h5⟩ := run_append_own_at (P := Try.prog) w B 113 ty 5 i0 (.int .u8 0) 1 1 Try.underlying113 hi hz0 hz1 hz2 rfl (by decide) v l.length (bytesV l) hb.own ad news.length c (bytesV news) (by simp [bytesV]) hnews
    (by intro u hu; simp only [bytesV, List.mem_map] at hu; obtain ⟨c, _, rfl⟩ := hu; rfl) (by unfold maxLen; omega) (by omega) hb.le
  have e1 : (l ++ news).length = l.length + news.length := by simp
  have e2 : bytesV (l ++ news) = bytesV l ++ bytesV news := by simp [bytesV]
  exact ⟨v', w', h1, ⟨by rw [e1, e2]; exact h2, hb.bel.grown h3 hb.le (fun k hk => (hb.own.lt k hk).1), Nat.le_trans hb.le h3.size⟩, ⟨h5, fun g hg hne => h3.block g hg hne, h3.size⟩⟩

theorem wp_append_bytes {w0 w : World} {o : Oper} {a : Act} {K : Act → World → Prop} {Q : Exit → Act → World → Prop} (s x : Operand)
    (ho : o.op = .call { callee := .builtin .append, args := #[s, x], argTypes := #[113, 113] })
    (B : Nat) (v : Value) (l : List UInt8) (hs : a.eval s = v) (hb : Buf B w0 w v l)
    (ad : Addr) (news : List UInt8) (c : Nat) (hx : a.eval x = .slice (some ad) news.length c)
    (hnews : ∀ j u, (bytesV news)[j]? = some u → w.cell? (ad.add j) = some u)
    (hlen : l.length + news.length ≤ 140737488355328)
    (h : ∀ v' w', Buf B w0 w' v' (l ++ news) → Keeps w w' v v' → K (a.put o.dst v') w') : o.wp Try.prog a w K Q := by
  obtain ⟨v', w', hr, h2, h3⟩ := run_append_bytes o.type B v l hb ad news c hnews hlen
  unfold Oper.wp execOp
  simp only [ho, resolve, invoke, builtin, Sem.run_bind, Sem.run_pure, Result.andThen_ok, List.map_toArray, List.map_cons, List.map_nil, hs, hx, hr]
  exact h v' w' h2 h3

/-- The same at a list of operations that goes in its own order. -/
theorem wpList_append_kept {w0 w : World} {ops : Array Oper} {rest : List Oper} {o : Oper} {a : Act} {Q : Exit → Act → World → Prop} (hgd : o.guard = none) (s x : Operand)
    (ho : o.op = .call { callee := .builtin .append, args := #[s, x], argTypes := #[113, 113] })
    (B : Nat) (v : Value) (l : List UInt8) (hs : a.eval s = v) (hb : Buf B w0 w v l)
    (ad : Addr) (news : List UInt8) (c : Nat) (hx : a.eval x = .slice (some ad) news.length c)
    (hnews : ∀ j u, (bytesV news)[j]? = some u → w.cell? (ad.add j) = some u)
    (hlen : l.length + news.length ≤ 140737488355328)
    (h : ∀ v' w', Buf B w0 w' v' (l ++ news) → Keeps w w' v v' → wpList Try.prog ops Q rest (a.put o.dst v') w') : wpList Try.prog ops Q (o :: rest) a w :=
  wpList_plain hgd fun _ hK => wp_append_bytes s x ho B v l hs hb ad news c hx hnews hlen fun v' w' h2 h3 => hK _ _ (h v' w' h2 h3)

/-- The same at a step of a region that draws its order. -/
theorem step_append_bytes {w0 w : World} {ops : Array Oper} {o : Oper} {a : Act} {K : Act → World → Prop} {Q : Exit → Act → World → Prop} {E : Prop} (hgd : o.guard = none) (s x : Operand)
    (ho : o.op = .call { callee := .builtin .append, args := #[s, x], argTypes := #[113, 113] })
    (B : Nat) (v : Value) (l : List UInt8) (hs : a.eval s = v) (hb : Buf B w0 w v l)
    (ad : Addr) (news : List UInt8) (c : Nat) (hx : a.eval x = .slice (some ad) news.length c)
    (hnews : ∀ j u, (bytesV news)[j]? = some u → w.cell? (ad.add j) = some u)
    (hlen : l.length + news.length ≤ 140737488355328)
    (h : ∀ v' w', Buf B w0 w' v' (l ++ news) → Keeps w w' v v' → K (a.put o.dst v') w') :
    if Region.wanted o (yielded ops a.tmps) = true then Oper.wp Try.prog o a w K Q else E := by
  have hw : Region.wanted o (yielded ops a.tmps) = true := by simp [Region.wanted, hgd]
  rw [if_pos hw]
  exact wp_append_bytes s x ho B v l hs hb ad news c hx hnews hlen h

/-- Two cells of a new block, as an append asks for them; behind a draw. -/
theorem two_new (w : World) (x y : Int) (b c : UInt8) (hx : x = (b.toNat : Int)) (hy : y = (c.toNat : Int)) :
    ∀ j u, (bytesV [b, c])[j]? = some u → ((w.alloc (.cells #[.int .u8 x, .int .u8 y] 5)).drew).cell? ((⟨w.heap.size, 0, none⟩ : Addr).add j) = some u := by
  subst hx hy
  intro j u hj
  match j, hj with
  | 0, hj => simp [bytesV] at hj; subst hj; simp [Addr.add]
  | 1, hj => simp [bytesV] at hj; subst hj; simp [Addr.add]
  | j + 2, hj => simp [bytesV] at hj

/-- The row that []byte(s) lays: its block is there, whatever is laid behind it. -/
theorem bytes_block (w : World) (s : ByteArray) : ∃ o : Obj, (Lib.bytesWorld w 5 s).heap[w.heap.size]? = some o ∧
    ∀ wx : World, wx.heap[w.heap.size]? = some o → ∀ j (hj : j < s.size), wx.cell? ⟨w.heap.size, j, none⟩ = some (.int .u8 (s[j].toNat : Int)) := by
  refine ⟨_, Lib.bytesWorld_at_new w 5 s, fun wx hx j hj => ?_⟩
  have h1 := Lib.bytesWorld_cell w 5 s j hj
  rw [World.cell?_of_block (w := Lib.bytesWorld w 5 s) (a := ⟨w.heap.size, j, none⟩) (by rw [hx, Lib.bytesWorld_at_new]), h1]
  have : s.data.toList.getD j 0 = s[j] := by
    rw [List.getD_eq_getElem?_getD, List.getElem?_eq_getElem (by simpa using hj)]; rfl
  rw [this]

theorem Buf.bytesWorld {B : Nat} {w0 w : World} {v : Value} {l : List UInt8} (h : Buf B w0 w v l) (s : ByteArray) : Buf B w0 (Lib.bytesWorld w 5 s) v l := by
  have hg : w.grownBy (Lib.bytesWorld w 5 s) none := ⟨rfl, rfl, rfl, by rw [Lib.bytesWorld_size]; omega, fun k hk _ => Lib.bytesWorld_at_old w 5 s k hk⟩
  refine ⟨h.own.kept hg ?_, h.bel.grown hg h.le (fun k hk => by cases hk), Nat.le_trans h.le hg.size⟩
  cases hv : v.ownBlock with
  | none => exact .inl rfl
  | some k => exact .inr (by simp)

/-- make([]byte, 0, n). -/
theorem wpList_make_bytes {w : World} {ops : Array Oper} {rest : List Oper} {o : Oper} {a : Act} {Q : Exit → Act → World → Prop} (hg : o.guard = none) (l c : Operand) (hop : o.op = Op.makeSlice 113 l c)
    (kl kc : IntKind) (C : Int) (n : Nat) (hl : a.eval l = .int kl 0) (hc : a.eval c = .int kc C) (hC : C = (n : Int)) (hn : n ≤ 281474976710656)
    (h : ∀ w' g, Buf w.heap.size w w' (.slice (some ⟨g, 0, none⟩) 0 n) [] → g < w'.heap.size → wpList Try.prog ops Q rest (a.put o.dst (.slice (some ⟨g, 0, none⟩) 0 n)) w') : wpList Try.prog ops Q (o :: rest) a w := by
  obtain ⟨i0, hi, hz0, hz1, hz2⟩ := info_parts Try.info_u8
  refine wpList_make_own w hg l c 113 hop w.heap.size 5 i0 (.int .u8 0) 1 Try.underlying113 hi hz0 hz1 kl kc C n hl hc hC (by rw [hz2]; omega) (by unfold maxLen; omega) (Nat.le_refl _) ?_
  intro w' hown hgrow
  exact h w' w.heap.size ⟨hown, (Below.refl _ _).grown hgrow (Nat.le_refl _) (fun k hk => by cases hk), hgrow.size⟩ (hown.lt w.heap.size rfl).2

theorem Buf.form {B : Nat} {w0 w : World} {v : Value} {l : List UInt8} (h : Buf B w0 w v l) : ∃ (a : Option Addr) (cap : Nat), v = .slice a l.length cap := by
  rcases h.own.2 with ⟨rfl, h0⟩ | ⟨g, cap, cur, rfl, _⟩
  · exact ⟨none, 0, by rw [h0]⟩
  · exact ⟨_, _, rfl⟩

/-- Where something is held, it lies at the head of a row of the call's own, and each byte is in its cell. -/
theorem Buf.at {B : Nat} {w0 w : World} {v : Value} {l : List UInt8} (h : Buf B w0 w v l) (hl : l ≠ []) : ∃ g cap : Nat, v = .slice (some ⟨g, 0, none⟩) l.length cap ∧ l.length ≤ cap ∧ B ≤ g ∧ g < w.heap.size ∧
    ∀ j b, l[j]? = some b → w.cell? ⟨g, j, none⟩ = some (.int .u8 (b.toNat : Int)) := by
  rcases h.own.2 with ⟨rfl, h0⟩ | ⟨g, cap, cur, rfl, hg, hh, hnc, hcp, hcs, htake⟩
  · exact absurd (List.length_eq_zero_iff.1 h0) hl
  · refine ⟨g, cap, rfl, hnc, hg, (h.own.lt g rfl).2, fun j b hj => ?_⟩
    have hlt : j < l.length := (List.getElem?_eq_some_iff.1 hj).1
    rw [h.own.cellAt j (by omega)]
    simp [bytesV, hj]

end Go.Proofs.Ytjfilicddnhniab

/- One figure: what spec.l01Figure hands back. -/
namespace Go.Proofs.Ytjfilicddnhniab
open Go.RowKit



end Go.Proofs.Ytjfilicddnhniab

/- The figures of a number: what spec.Decimal hands back. -/
namespace Go.Proofs.Ytjfilicddnhniab
open Go.RowKit

theorem fig_figD {x : Nat} (h : x < 10) : fig x = figD x := by
  rw [fig, if_pos h, figD]

theorem one_string (w : World) (X : Int) (b : UInt8) (h : X = (b.toNat : Int)) :
    (convert 113 9 (.slice (some ⟨w.heap.size, 0, none⟩) 1 1)).run Try.prog (w.alloc (.cells #[.int .u8 X] 5)) = .ok (.string ⟨[b].toArray⟩) (w.alloc (.cells #[.int .u8 X] 5)) := by
  subst h
  refine run_convert_bytes_back (P := Try.prog) _ 113 9 5 ⟨w.heap.size, 0, none⟩ 1 [b] Try.underlying113 Try.underlying5 Try.underlying9 fun j hj => ?_
  have hj0 : j = 0 := by simpa using hj
  subst hj0
  simp [Addr.add]

theorem string_push (b : UInt8) (acc : List UInt8) (h : acc.length + 1 ≤ 9223372036854775807) (wx : World) :
    (Op.stringOp .add ⟨[b].toArray⟩ ⟨acc.toArray⟩).run Try.prog wx = .ok (.string ⟨(b :: acc).toArray⟩) wx := by
  rw [run_string_add_sum (P := Try.prog) (w := wx) ⟨[b].toArray⟩ ⟨acc.toArray⟩ (by simp [ByteArray.size]; omega), ByteArray.mk_append_mk]
  rfl


end Go.Proofs.Ytjfilicddnhniab

/- What a list of texts is that a call builds in memory of its own, and the laws by which it grows, is read and is written. -/
namespace Go.Proofs.Ytjfilicddnhniab
open Go.RowKit

theorem Try.info_str : (Try.prog.info? 9).map (fun i => (i.zero, i.size, i.bytes)) = some (some (.string ⟨#[]⟩), 1, 16) := by kernel_rfl

def strV (l : List ByteArray) : List Value := l.map fun c => .string c
theorem strV_length (l : List ByteArray) : (strV l).length = l.length := by simp [strV]

/-- The slice v holds the texts l in memory that the call made itself (blocks from B on); below B all is as it was in w0. -/
structure SBuf (B : Nat) (w0 w : World) (v : Value) (l : List ByteArray) : Prop where
  own : w.ownsRow B 9 1 v l.length (strV l)
  bel : Below B w0 w
  le : B ≤ w.heap.size

theorem SBuf.alloc {B : Nat} {w0 w : World} {v : Value} {l : List ByteArray} (h : SBuf B w0 w v l) (o : Obj) : SBuf B w0 (w.alloc o) v l :=
  ⟨h.own.alloc o, h.bel.alloc h.le o, by have := h.le; simp; omega⟩
theorem SBuf.drew {B : Nat} {w0 w : World} {v : Value} {l : List ByteArray} (h : SBuf B w0 w v l) : SBuf B w0 w.drew v l :=
  ⟨h.own.drew, h.bel.drew, h.le⟩
theorem SBuf.fresh (w : World) : SBuf w.heap.size w (w.alloc (.cells #[] 9)) (.slice (some ⟨w.heap.size, 0, none⟩) 0 0) [] :=
  ⟨World.ownsRow_made w #[] 0 (Nat.le_refl _) (by decide) rfl, (Below.refl _ _).alloc (Nat.le_refl _) _, by simp⟩

/-- What is laid behind the heap's end, and nothing else, leaves the texts where they are. -/
theorem SBuf.later {B : Nat} {w0 w w' : World} {v : Value} {l : List ByteArray} (h : SBuf B w0 w v l) (hb : Below w.heap.size w w') : SBuf B w0 w' v l := by
  have hg : w.grownBy w' none := ⟨hb.os, hb.tape, hb.output, hb.size, fun k hk _ => hb.block k hk⟩
  refine ⟨h.own.kept hg ?_, h.bel.trans (hb.mono h.le), Nat.le_trans h.le hb.size⟩
  cases hv : v.ownBlock with
  | none => exact .inl rfl
  | some k => exact .inr (by simp)

theorem SBuf.form {B : Nat} {w0 w : World} {v : Value} {l : List ByteArray} (h : SBuf B w0 w v l) : ∃ (a : Option Addr) (cap : Nat), v = .slice a l.length cap := by
  rcases h.own.2 with ⟨rfl, h0⟩ | ⟨g, cap, cur, rfl, _⟩
  · exact ⟨none, 0, by rw [h0]⟩
  · exact ⟨_, _, rfl⟩

/-- Texts that can be read: each in its cell of a row; nothing where there is none. -/
def Strs (w : World) (v : Value) (l : List ByteArray) : Prop :=
  (l = [] ∧ ∃ (a : Option Addr) (cap : Nat), v = .slice a 0 cap) ∨
  ∃ g cap : Nat, v = .slice (some ⟨g, 0, none⟩) l.length cap ∧ l.length ≤ cap ∧ g < w.heap.size ∧ ∀ j b, l[j]? = some b → w.cell? ⟨g, j, none⟩ = some (.string b)

theorem SBuf.strs {B : Nat} {w0 w : World} {v : Value} {l : List ByteArray} (h : SBuf B w0 w v l) : Strs w v l := by
  rcases h.own.2 with ⟨rfl, h0⟩ | ⟨g, cap, cur, rfl, hg, hh, hnc, hcp, hcs, htake⟩
  · exact .inl ⟨List.length_eq_zero_iff.1 h0, _, _, rfl⟩
  · refine .inr ⟨g, cap, rfl, hnc, (h.own.lt g rfl).2, fun j b hj => ?_⟩
    have hlt : j < l.length := (List.getElem?_eq_some_iff.1 hj).1
    rw [h.own.cellAt j (by omega)]
    simp [strV, hj]

theorem Strs.later {w w' : World} {v : Value} {l : List ByteArray} (h : Strs w v l) (hb : Below w.heap.size w w') : Strs w' v l := by
  rcases h with h | ⟨g, cap, hv, hc, hg, hcl⟩
  · exact .inl h
  · exact .inr ⟨g, cap, hv, hc, Nat.lt_of_lt_of_le hg hb.size, fun j b hj => (hb.cell (p := ⟨g, j, none⟩) hg).trans (hcl j b hj)⟩

/-- A store into the row. -/
theorem SBuf.stored {B : Nat} {w0 w : World} {g cap : Nat} {l : List ByteArray} (h : SBuf B w0 w (.slice (some ⟨g, 0, none⟩) l.length cap) l) (j : Nat) (t : ByteArray) :
    SBuf B w0 (w.setCell ⟨g, j, none⟩ (.string t)) (.slice (some ⟨g, 0, none⟩) l.length cap) (l.set j t) := by
  have hst := h.own.stored j (.string t)
  have e : strV (l.set j t) = (strV l).set j (.string t) := by simp [strV, List.map_set]
  refine ⟨?_, h.bel.setCell (h.own.lt g rfl).1 _, by have := h.le; simpa using this⟩
  have hl : (l.set j t).length = l.length := by simp
  rw [hl, e]
  exact hst.1

theorem SBuf.under {w0 w1 w : World} {v : Value} {l : List ByteArray} (hb : Below w0.heap.size w0 w1) (h : SBuf w1.heap.size w1 w v l) : SBuf w0.heap.size w0 w v l := by
  refine ⟨⟨h.own.1, ?_⟩, hb.trans (h.bel.mono hb.size), Nat.le_trans hb.size h.le⟩
  rcases h.own.2 with h1 | ⟨g, cap, cur, h1, h2, h3⟩
  · exact .inl h1
  · exact .inr ⟨g, cap, cur, h1, Nat.le_trans hb.size h2, h3⟩

end Go.Proofs.Ytjfilicddnhniab

/- The marks by which a law tells whose memory a list of texts is: what laws.markText, eqStringS, markStringS and heldStringS hand back. -/
namespace Go.Proofs.Ytjfilicddnhniab
open Go.RowKit

/-- The k-th mark. -/
def mark (k : Nat) : ByteArray := ⟨(109 :: digs k).toArray⟩

set_option maxRecDepth 100000 in
set_option maxHeartbeats 1000000 in
theorem markText_any (k : Nat) (w : World) (h1 : 1 ≤ k) (h2 : k ≤ 4611686018427387904) :
    Calls Try.prog 54 #[.int .i64 (k : Int)] w fun e w' => e = .returned (.string (mark k)) ∧ Below w.heap.size w w' := by
  have hdl := digs_len_half k k (Nat.le_refl _)
  go_enter Try.func54, Try.ntmps54
  go_wp2
  go_loopw [0, 3] (fun nv sv wr => ∃ (m : Nat) (acc : List UInt8), m ≤ k ∧ nv = .int .i64 (m : Int) ∧ sv = .string ⟨acc.toArray⟩ ∧ digs m ++ acc = digs k ∧ Below w.heap.size w wr) (fun nv _ _ => (intOf nv).toNat)
  case atStart => exact ⟨k, [], Nat.le_refl _, rfl, rfl, by simp, Below.refl _ _⟩
  case round =>
    obtain ⟨m, acc, hm, rfl, rfl, he0, hbel⟩ := hrel
    have he : Hid (digs m ++ acc = digs k) := he0
    have hal : acc.length ≤ (digs k).length := by have h1 := congrArg List.length he0; simp at h1; omega
    clear he0
    by_cases hm0 : m = 0
    · subst hm0
      have hsp := string_push 109 acc (by omega)
      go_wp2
      go_ret
      refine ⟨?_, hbel⟩
      have := he.out
      rw [digs_zero, List.nil_append] at this
      rw [mark, ← this]
      rfl
    · have hm1 : (0 : Int) < (m : Int) := by omega
      obtain ⟨b, hb0⟩ : ∃ b : UInt8, figD (m % 10) = b := ⟨_, rfl⟩
      have hbn : (b.toNat : Int) = 48 + (m : Int) % 10 := by rw [← hb0, figD_toNat (by omega)]; omega
      have hb1 : Hid (b = figD (m % 10)) := hb0.symm
      have hcv := one_string wr (48 + (m : Int) % 10) b hbn.symm
      have hsp := string_push b acc (by omega)
      clear hb0 hbn
      go_wp2
      go_roundw
      case rel => exact ⟨m / 10, b :: acc, by omega, by go_num, rfl, by rw [hb1.out]; exact digs_push he.out hm0, hbel.alloc hbel.size _⟩
      case measure => simp [intOf]; omega

theorem Strs.ways {w : World} {v : Value} {l : List ByteArray} (h : Strs w v l) : (l = [] ∧ ∃ (a : Option Addr) (cap : Nat), v = .slice a 0 cap) ∨
    (l ≠ [] ∧ ∃ g cap : Nat, v = .slice (some ⟨g, 0, none⟩) l.length cap ∧ l.length ≤ cap ∧ g < w.heap.size ∧ ∀ j b, l[j]? = some b → w.cell? ⟨g, j, none⟩ = some (.string b)) := by
  by_cases hl : l = []
  · subst hl
    rcases h with h | ⟨g, cap, hv, _⟩
    · exact .inl h
    · exact .inl ⟨rfl, _, _, hv⟩
  · rcases h with ⟨h, _⟩ | h
    · exact absurd h hl
    · exact .inr ⟨hl, h⟩

end Go.Proofs.Ytjfilicddnhniab

/- A list of texts marked and looked at again: what laws.markStringS and laws.heldStringS hand back. -/
namespace Go.Proofs.Ytjfilicddnhniab
open Go.RowKit

theorem markText_at (K : Int) (k : Nat) (w : World) (hK : K = (k : Int)) (h1 : 1 ≤ k) (h2 : k ≤ 4611686018427387904) :
    Calls Try.prog 54 #[.int .i64 K] w fun e w' => e = .returned (.string (mark k)) ∧ Below w.heap.size w w' := by
  subst hK
  exact markText_any k w h1 h2

/-- The first i texts of l marked, from the k-th mark on. -/
def markTo (k : Nat) (l : List ByteArray) (i : Nat) : List ByteArray := (List.range i).map (fun j => mark (k + j)) ++ l.drop i

theorem markTo_length {k i : Nat} {l : List ByteArray} (h : i ≤ l.length) : (markTo k l i).length = l.length := by
  simp [markTo]; omega

theorem markTo_set {k i : Nat} {l : List ByteArray} (h : i < l.length) : (markTo k l i).set i (mark (k + i)) = markTo k l (i + 1) := by
  unfold markTo
  rw [List.set_append_right _ _ (by simp)]
  simp only [List.length_map, List.length_range, Nat.sub_self]
  rw [List.drop_eq_getElem_cons h, List.set_cons_zero, List.range_succ, List.map_append, List.append_assoc]
  rfl

theorem markTo_zero (k : Nat) (l : List ByteArray) : markTo k l 0 = l := by simp [markTo]

/-- All marked. -/
def marksOf (k n : Nat) : List ByteArray := (List.range n).map (fun j => mark (k + j))
theorem markTo_all (k : Nat) (l : List ByteArray) : markTo k l l.length = marksOf k l.length := by simp [markTo, marksOf]
theorem marksOf_length (k n : Nat) : (marksOf k n).length = n := by simp [marksOf]
theorem marksOf_at {k n i : Nat} (h : i < n) : (marksOf k n)[i]? = some (mark (k + i)) := by simp [marksOf, h]

end Go.Proofs.Ytjfilicddnhniab
