/- Texts of our own, joined. -/
import Derived.Test.YtieenkloiicnkaaGreatDoorJh
import Derived.Test.YtieenkloiicnkaaGreatDoorJg
import Derived.Test.YtieenkloiicnkaaGreatDoorJk
import Derived.Test.YtieenkloiicnkaaGreatDoorJa
import Derived.Deep.RegionLaw
/- What records tell, plainly: whatever the order in which they lie, and however often one lies there. -/
namespace Go.Proofs.YtieenkloiicnkaaGreatDoor

/-- An item: its number and its record. -/
abbrev Itm := Int × Rc

/-- x stands ahead of y: by the key, and of two with one key by the number. -/
def aheadB (k : Itm → Int) (x y : Itm) : Bool := decide (k y < k x ∨ (k x = k y ∧ y.1 < x.1))

/-- One step of the choice. -/
def bestStep (k : Itm → Int) (p : Itm → Bool) (o : Option Itm) (x : Itm) : Option Itm :=
  if p x = true then (match o with
    | none => some x
    | some y => if aheadB k x y = true then some x else some y) else o
/-- The first of those that p takes. -/
def bestO (k : Itm → Int) (p : Itm → Bool) (l : List Itm) : Option Itm := l.foldl (bestStep k p) none

/-- What the choice has seen. -/
def BestI (k : Itm → Int) (p : Itm → Bool) (l : List Itm) (o : Option Itm) : Prop :=
  match o with
  | none => ∀ y ∈ l, p y = false
  | some x => x ∈ l ∧ p x = true ∧ ∀ y ∈ l, p y = true → k y < k x ∨ (k y = k x ∧ y.1 ≤ x.1)

theorem bestStep_I {k : Itm → Int} {p : Itm → Bool} {l : List Itm} {o : Option Itm} (h : BestI k p l o) (x : Itm) : BestI k p (l ++ [x]) (bestStep k p o x) := by
  unfold bestStep
  by_cases hp : p x = true
  · rw [if_pos hp]
    cases o with
    | none =>
      refine ⟨by simp, hp, fun y hy hpy => ?_⟩
      rcases List.mem_append.1 hy with hy | hy
      · rw [h y hy] at hpy; cases hpy
      · rw [List.mem_singleton.1 hy]; exact .inr ⟨rfl, Int.le_refl _⟩
    | some z =>
      obtain ⟨h1, h2, h3⟩ := h
      dsimp only
      by_cases ha : aheadB k x z = true
      · rw [if_pos ha]
        have ha := of_decide_eq_true ha
        refine ⟨by simp, hp, fun y hy hpy => ?_⟩
        rcases List.mem_append.1 hy with hy | hy
        · have := h3 y hy hpy; omega
        · rw [List.mem_singleton.1 hy]; exact .inr ⟨rfl, Int.le_refl _⟩
      · rw [if_neg ha]
        have ha : ¬ (k z < k x ∨ (k x = k z ∧ z.1 < x.1)) := fun c => ha (decide_eq_true c)
        refine ⟨List.mem_append_left _ h1, h2, fun y hy hpy => ?_⟩
        rcases List.mem_append.1 hy with hy | hy
        · exact h3 y hy hpy
        · rw [List.mem_singleton.1 hy]; omega
  · rw [if_neg hp]
    have hp : p x = false := by simpa using hp
    cases o with
    | none =>
      intro y hy
      rcases List.mem_append.1 hy with hy | hy
      · exact h y hy
      · rw [List.mem_singleton.1 hy]; exact hp
    | some z =>
      obtain ⟨h1, h2, h3⟩ := h
      refine ⟨List.mem_append_left _ h1, h2, fun y hy hpy => ?_⟩
      rcases List.mem_append.1 hy with hy | hy
      · exact h3 y hy hpy
      · rw [List.mem_singleton.1 hy, hp] at hpy; cases hpy

theorem bestFold_I {k : Itm → Int} {p : Itm → Bool} : ∀ (m l : List Itm) (o : Option Itm), BestI k p l o → BestI k p (l ++ m) (m.foldl (bestStep k p) o)
  | [], l, o, h => by rw [List.append_nil]; exact h
  | x :: m, l, o, h => by
    have := bestFold_I m (l ++ [x]) _ (bestStep_I h x)
    rw [List.append_assoc] at this
    exact this

theorem bestO_I (k : Itm → Int) (p : Itm → Bool) (l : List Itm) : BestI k p l (bestO k p l) := by
  have := bestFold_I (k := k) (p := p) l [] none (fun y hy => by cases hy)
  exact this

/-- No number lies twice with two records. -/
def Uniq (l : List Itm) : Prop := ∀ x ∈ l, ∀ y ∈ l, x.1 = y.1 → x = y

theorem BestI.same {k : Itm → Int} {p : Itm → Bool} {l m : List Itm} {o o' : Option Itm} (hu : Uniq l) (hm : ∀ x, x ∈ l ↔ x ∈ m) (h : BestI k p l o) (h' : BestI k p m o') : o = o' := by
  cases o with
  | none =>
    cases o' with
    | none => rfl
    | some y => have := h y ((hm y).2 h'.1); rw [h'.2.1] at this; cases this
  | some x =>
    cases o' with
    | none => have := h' x ((hm x).1 h.1); rw [h.2.1] at this; cases this
    | some y =>
      have a := h.2.2 y ((hm y).2 h'.1) h'.2.1
      have b := h'.2.2 x ((hm x).1 h.1) h.2.1
      rw [hu x h.1 y ((hm y).2 h'.1) (by omega)]

/-- The choice hangs on what lies there, not on where. -/
theorem bestO_same {k : Itm → Int} {p : Itm → Bool} {l m : List Itm} (hu : Uniq l) (hm : ∀ x, x ∈ l ↔ x ∈ m) : bestO k p l = bestO k p m :=
  (bestO_I k p l).same hu hm (bestO_I k p m)

/-- A number put into its place. -/
def insI (l : List Int) (x : Int) : List Int := l.filter (fun y => decide (y < x)) ++ (x :: l.filter (fun y => decide (x < y)))
theorem mem_insI {l : List Int} {x y : Int} : y ∈ insI l x ↔ y = x ∨ y ∈ l := by
  unfold insI
  simp only [List.mem_append, List.mem_cons, List.mem_filter, decide_eq_true_eq]
  constructor
  · rintro (⟨h, _⟩ | h | ⟨h, _⟩)
    · exact .inr h
    · exact .inl h
    · exact .inr h
  · rintro (h | h)
    · exact .inr (.inl h)
    · by_cases h1 : y < x
      · exact .inl ⟨h, h1⟩
      · by_cases h2 : x < y
        · exact .inr (.inr ⟨h, h2⟩)
        · exact .inr (.inl (by omega))
theorem insI_up {l : List Int} {x : Int} (h : l.Pairwise (· < ·)) : (insI l x).Pairwise (· < ·) := by
  unfold insI
  rw [List.pairwise_append]
  refine ⟨h.filter _, ?_, ?_⟩
  · rw [List.pairwise_cons]
    exact ⟨fun y hy => by simpa using (List.mem_filter.1 hy).2, h.filter _⟩
  · intro a ha b hb
    have ha := (List.mem_filter.1 ha).2
    simp only [decide_eq_true_eq] at ha
    rcases List.mem_cons.1 hb with rfl | hb
    · exact ha
    · have hb := (List.mem_filter.1 hb).2
      simp only [decide_eq_true_eq] at hb
      omega

/-- Two rising rows of the same numbers are one. -/
theorem up_same : ∀ {l m : List Int}, l.Pairwise (· < ·) → m.Pairwise (· < ·) → (∀ x, x ∈ l ↔ x ∈ m) → l = m
  | [], [], _, _, _ => rfl
  | [], y :: m, _, _, h => by have := (h y).2 (by simp); cases this
  | x :: l, [], _, _, h => by have := (h x).1 (by simp); cases this
  | x :: l, y :: m, hl, hm, h => by
    rw [List.pairwise_cons] at hl hm
    have e : x = y := by
      rcases List.mem_cons.1 ((h x).1 (by simp)) with e | hx
      · exact e
      · rcases List.mem_cons.1 ((h y).2 (by simp)) with e | hy
        · exact e.symm
        · have := hl.1 y hy; have := hm.1 x hx; omega
    subst e
    rw [up_same hl.2 hm.2 (fun z => ?_)]
    constructor
    · intro hz
      rcases List.mem_cons.1 ((h z).1 (List.mem_cons_of_mem _ hz)) with e | hz'
      · have := hl.1 z hz; omega
      · exact hz'
    · intro hz
      rcases List.mem_cons.1 ((h z).2 (List.mem_cons_of_mem _ hz)) with e | hz'
      · have := hm.1 z hz; omega
      · exact hz'

/-- The numbers that f takes out of the items, rising. -/
def upOf (f : Itm → Option Int) (l : List Itm) : List Int := l.foldl (fun o x => match f x with | some n => insI o n | none => o) []
theorem upFold (f : Itm → Option Int) : ∀ (l : List Itm) (o : List Int), o.Pairwise (· < ·) →
    (l.foldl (fun o x => match f x with | some n => insI o n | none => o) o).Pairwise (· < ·) ∧
    ∀ n, n ∈ l.foldl (fun o x => match f x with | some n => insI o n | none => o) o ↔ n ∈ o ∨ ∃ x ∈ l, f x = some n
  | [], o, h => ⟨h, fun n => by simp⟩
  | x :: l, o, h => by
    rw [List.foldl_cons]
    cases hf : f x with
    | none =>
      obtain ⟨a, b⟩ := upFold f l o h
      refine ⟨a, fun n => ?_⟩
      rw [b n]
      constructor
      · rintro (h | ⟨y, hy, e⟩)
        · exact .inl h
        · exact .inr ⟨y, List.mem_cons_of_mem _ hy, e⟩
      · rintro (h | ⟨y, hy, e⟩)
        · exact .inl h
        · rcases List.mem_cons.1 hy with rfl | hy
          · rw [hf] at e; cases e
          · exact .inr ⟨y, hy, e⟩
    | some k =>
      obtain ⟨a, b⟩ := upFold f l (insI o k) (insI_up h)
      refine ⟨a, fun n => ?_⟩
      rw [b n, mem_insI]
      constructor
      · rintro ((rfl | h) | ⟨y, hy, e⟩)
        · exact .inr ⟨x, by simp, hf⟩
        · exact .inl h
        · exact .inr ⟨y, List.mem_cons_of_mem _ hy, e⟩
      · rintro (h | ⟨y, hy, e⟩)
        · exact .inl (.inr h)
        · rcases List.mem_cons.1 hy with rfl | hy
          · rw [hf] at e; cases e; exact .inl (.inl rfl)
          · exact .inr ⟨y, hy, e⟩
theorem upOf_up (f : Itm → Option Int) (l : List Itm) : (upOf f l).Pairwise (· < ·) := (upFold f l [] List.Pairwise.nil).1
theorem mem_upOf {f : Itm → Option Int} {l : List Itm} {n : Int} : n ∈ upOf f l ↔ ∃ x ∈ l, f x = some n := by
  have := (upFold f l [] List.Pairwise.nil).2 n
  rw [upOf, this]; simp
theorem upOf_same {f g : Itm → Option Int} {l m : List Itm} (hm : ∀ x, x ∈ l ↔ x ∈ m) (hf : ∀ x ∈ l, f x = g x) : upOf f l = upOf g m :=
  up_same (upOf_up f l) (upOf_up g m) (fun n => by
    rw [mem_upOf, mem_upOf]
    constructor
    · rintro ⟨x, hx, e⟩; exact ⟨x, (hm x).1 hx, by rw [← hf x hx]; exact e⟩
    · rintro ⟨x, hx, e⟩; exact ⟨x, (hm x).2 hx, by rw [hf x ((hm x).2 hx)]; exact e⟩)

/-- The greatest of what f takes out, and of b. -/
def mostOf (b : Int) (f : Itm → Int) (l : List Itm) : Int := l.foldl (fun n x => if n < f x then f x else n) b
theorem mostFold (f : Itm → Int) : ∀ (l : List Itm) (b : Int), b ≤ l.foldl (fun n x => if n < f x then f x else n) b ∧ (∀ x ∈ l, f x ≤ l.foldl (fun n x => if n < f x then f x else n) b) ∧
    (l.foldl (fun n x => if n < f x then f x else n) b = b ∨ ∃ x ∈ l, l.foldl (fun n x => if n < f x then f x else n) b = f x)
  | [], b => ⟨Int.le_refl _, fun x hx => (by cases hx), .inl rfl⟩
  | x :: l, b => by
    rw [List.foldl_cons]
    obtain ⟨a1, a2, a3⟩ := mostFold f l (if b < f x then f x else b)
    have hb : b ≤ (if b < f x then f x else b) ∧ f x ≤ (if b < f x then f x else b) ∧ ((if b < f x then f x else b) = b ∨ (if b < f x then f x else b) = f x) := by
      split
      · exact ⟨by omega, by omega, .inr rfl⟩
      · exact ⟨by omega, by omega, .inl rfl⟩
    refine ⟨Int.le_trans hb.1 a1, fun y hy => ?_, ?_⟩
    · rcases List.mem_cons.1 hy with rfl | hy
      · exact Int.le_trans hb.2.1 a1
      · exact a2 y hy
    · rcases a3 with e | ⟨y, hy, e⟩
      · rw [e]
        rcases hb.2.2 with h | h
        · exact .inl h
        · exact .inr ⟨x, by simp, h⟩
      · exact .inr ⟨y, List.mem_cons_of_mem _ hy, e⟩
theorem mostOf_same {b : Int} {f : Itm → Int} {l m : List Itm} (hm : ∀ x, x ∈ l ↔ x ∈ m) : mostOf b f l = mostOf b f m := by
  obtain ⟨a1, a2, a3⟩ := mostFold f l b
  obtain ⟨b1, b2, b3⟩ := mostFold f m b
  unfold mostOf
  have h1 : l.foldl (fun n x => if n < f x then f x else n) b ≤ m.foldl (fun n x => if n < f x then f x else n) b := by
    rcases a3 with e | ⟨x, hx, e⟩
    · rw [e]; exact b1
    · rw [e]; exact b2 x ((hm x).1 hx)
  have h2 : m.foldl (fun n x => if n < f x then f x else n) b ≤ l.foldl (fun n x => if n < f x then f x else n) b := by
    rcases b3 with e | ⟨x, hx, e⟩
    · rw [e]; exact a1
    · rw [e]; exact a2 x ((hm x).2 hx)
  omega

/-- A mail, and a box. -/
structure Ml where
  uid : Int
  flags : Int
  text : ByteArray
structure Bx where
  valid : Int
  user : ByteArray
  name : ByteArray
  next : Int
  mails : List Ml

/-- The record of a kind, a box and a mail with the greatest number. -/
def bestR (kind valid uid : Int) (l : List Itm) : Option Itm := bestO (fun _ => 0) (fun x => decide (x.2.kind = kind ∧ x.2.valid = valid ∧ x.2.uid = uid)) l
/-- The record of a box that tells its user and name. -/
def tellO (valid : Int) (l : List Itm) : Option Itm := bestO (fun x => x.2.next) (fun x => decide (x.2.kind = 1 ∧ x.2.valid = valid)) l
/-- What one record says of the next mail's number. -/
def nextK (valid : Int) (x : Itm) : Int := if x.2.valid = valid then (if x.2.kind = 1 then x.2.next else if x.2.kind = 3 ∨ x.2.kind = 5 then x.2.uid + 1 else 0) else 0
def nextOf (valid : Int) (l : List Itm) : Int := mostOf 1 (nextK valid) l
def uidK (valid : Int) (l : List Itm) (x : Itm) : Option Int := if x.2.kind = 3 ∧ x.2.valid = valid ∧ bestR 5 valid x.2.uid l = none then some x.2.uid else none
def mailK (valid : Int) (l : List Itm) (u : Int) : Ml :=
  ⟨u, ((bestR 4 valid u l).or (bestR 3 valid u l)).elim 0 (fun y => y.2.flags), (bestR 3 valid u l).elim emp (fun y => y.2.text)⟩
def mailsOf (valid : Int) (l : List Itm) : List Ml := (upOf (uidK valid l) l).map (mailK valid l)
def validK (l : List Itm) (x : Itm) : Option Int := if x.2.kind = 1 ∧ bestR 2 x.2.valid 0 l = none then some x.2.valid else none
def boxK (l : List Itm) (v : Int) : Bx := ⟨v, (tellO v l).elim emp (fun y => y.2.user), (tellO v l).elim emp (fun y => y.2.name), nextOf v l, mailsOf v l⟩
/-- Right items. -/
def itemsOk (l : List Itm) : Prop := (∀ x ∈ l, (1 ≤ x.1 ∧ x.1 ≤ 1000000000) ∧ x.2.ok) ∧ Uniq l ∧ l.length ≤ 200
/-- What right items tell. -/
def tellAll (l : List Itm) : List Bx := (upOf (validK l) l).map (boxK l)

theorem mailsOf_same {l m : List Itm} (hu : Uniq l) (hm : ∀ x, x ∈ l ↔ x ∈ m) (v : Int) : mailsOf v l = mailsOf v m := by
  have hb : ∀ k v u, bestR k v u l = bestR k v u m := fun k v u => bestO_same hu hm
  have e1 : uidK v l = uidK v m := by funext x; unfold uidK; rw [hb]
  have e2 : mailK v l = mailK v m := by funext u; unfold mailK; rw [hb, hb]
  unfold mailsOf
  rw [e2, e1, upOf_same hm (fun x _ => rfl)]
/-- All is told the same, in whatever order the records lie, and however often one lies there. -/
theorem tellAll_same {l m : List Itm} (hu : Uniq l) (hm : ∀ x, x ∈ l ↔ x ∈ m) : tellAll l = tellAll m := by
  have hb : ∀ k v u, bestR k v u l = bestR k v u m := fun k v u => bestO_same hu hm
  have ht : ∀ v, tellO v l = tellO v m := fun v => bestO_same hu hm
  have e1 : validK l = validK m := by funext x; unfold validK; rw [hb]
  have e2 : boxK l = boxK m := by funext v; unfold boxK nextOf; rw [ht, mailsOf_same hu hm, mostOf_same hm]
  unfold tellAll
  rw [e2, e1, upOf_same hm (fun x _ => rfl)]

theorem bestR_none {kind valid uid : Int} {l : List Itm} (h : bestR kind valid uid l = none) (x : Itm) (hx : x ∈ l) : ¬ (x.2.kind = kind ∧ x.2.valid = valid ∧ x.2.uid = uid) := by
  have := bestO_I (fun _ => 0) (fun x => decide (x.2.kind = kind ∧ x.2.valid = valid ∧ x.2.uid = uid)) l
  unfold bestR at h
  rw [h] at this
  exact of_decide_eq_false (this x hx)
theorem bestR_some {kind valid uid : Int} {l : List Itm} {x : Itm} (h : bestR kind valid uid l = some x) : x ∈ l ∧ (x.2.kind = kind ∧ x.2.valid = valid ∧ x.2.uid = uid) ∧ ∀ y ∈ l, y.2.kind = kind → y.2.valid = valid → y.2.uid = uid → y.1 ≤ x.1 := by
  have := bestO_I (fun _ => 0) (fun x => decide (x.2.kind = kind ∧ x.2.valid = valid ∧ x.2.uid = uid)) l
  unfold bestR at h
  rw [h] at this
  refine ⟨this.1, of_decide_eq_true this.2.1, fun y hy a b c => ?_⟩
  have := this.2.2 y hy (decide_eq_true ⟨a, b, c⟩)
  dsimp only at this
  omega
theorem bestR_there {kind valid uid : Int} {l : List Itm} {x : Itm} (hx : x ∈ l) (h : x.2.kind = kind ∧ x.2.valid = valid ∧ x.2.uid = uid) : ∃ y, bestR kind valid uid l = some y := by
  cases hb : bestR kind valid uid l with
  | none => exact absurd h (bestR_none hb x hx)
  | some y => exact ⟨y, rfl⟩

/-- The numbers of a box's mails: added, and not gone. -/
theorem mem_uids {v : Int} {l : List Itm} {n : Int} : n ∈ upOf (uidK v l) l ↔ (∃ x ∈ l, x.2.kind = 3 ∧ x.2.valid = v ∧ x.2.uid = n) ∧ bestR 5 v n l = none := by
  rw [mem_upOf]
  constructor
  · rintro ⟨x, hx, e⟩
    unfold uidK at e
    split at e
    · rename_i h
      cases e
      exact ⟨⟨x, hx, h.1, h.2.1, rfl⟩, h.2.2⟩
    · cases e
  · rintro ⟨⟨x, hx, a, b, rfl⟩, h⟩
    refine ⟨x, hx, ?_⟩
    unfold uidK
    rw [if_pos ⟨a, b, h⟩]
theorem mails_uids (v : Int) (l : List Itm) : (mailsOf v l).map (·.uid) = upOf (uidK v l) l := by
  unfold mailsOf
  rw [List.map_map]
  exact List.map_id' _
theorem mails_up (v : Int) (l : List Itm) : (mailsOf v l).Pairwise (fun a b => a.uid < b.uid) := by
  have := upOf_up (uidK v l) l
  rw [← mails_uids] at this
  exact List.pairwise_map.1 this
/-- A mail that is told was added; it is not gone; its number lies below the next one. -/
theorem mails_told {v : Int} {l : List Itm} {m : Ml} (h : m ∈ mailsOf v l) : m.uid < nextOf v l ∧ (∀ x ∈ l, ¬ (x.2.kind = 5 ∧ x.2.valid = v ∧ x.2.uid = m.uid)) := by
  have hu : m.uid ∈ upOf (uidK v l) l := by rw [← mails_uids]; exact List.mem_map_of_mem h
  obtain ⟨⟨x, hx, a, b, c⟩, hg⟩ := mem_uids.1 hu
  refine ⟨?_, fun y hy => bestR_none hg y hy⟩
  have := (mostFold (nextK v) l 1).2.1 x hx
  have e : nextK v x = x.2.uid + 1 := by
    unfold nextK
    rw [if_pos b, if_neg (by omega), if_pos (.inl a)]
  rw [e] at this
  unfold nextOf mostOf
  omega
theorem add_below {v : Int} {l : List Itm} {x : Itm} (hx : x ∈ l) (a : x.2.kind = 3) (b : x.2.valid = v) : x.2.uid < nextOf v l := by
  have := (mostFold (nextK v) l 1).2.1 x hx
  have e : nextK v x = x.2.uid + 1 := by
    unfold nextK
    rw [if_pos b, if_neg (by omega), if_pos (.inl a)]
  rw [e] at this
  unfold nextOf mostOf
  omega
/-- The boxes that are told: told of, and not dropped; their numbers rise. -/
theorem mem_valids {l : List Itm} {n : Int} : n ∈ upOf (validK l) l ↔ (∃ x ∈ l, x.2.kind = 1 ∧ x.2.valid = n) ∧ bestR 2 n 0 l = none := by
  rw [mem_upOf]
  constructor
  · rintro ⟨x, hx, e⟩
    unfold validK at e
    split at e
    · rename_i h
      cases e
      exact ⟨⟨x, hx, h.1, rfl⟩, h.2⟩
    · cases e
  · rintro ⟨⟨x, hx, a, rfl⟩, h⟩
    refine ⟨x, hx, ?_⟩
    unfold validK
    rw [if_pos ⟨a, h⟩]
theorem boxes_valids (l : List Itm) : (tellAll l).map (·.valid) = upOf (validK l) l := by
  unfold tellAll
  rw [List.map_map]
  exact List.map_id' _
theorem boxes_up (l : List Itm) : (tellAll l).Pairwise (fun a b => a.valid < b.valid) := by
  have := upOf_up (validK l) l
  rw [← boxes_valids] at this
  exact List.pairwise_map.1 this
theorem box_form {l : List Itm} {b : Bx} (h : b ∈ tellAll l) : b = boxK l b.valid := by
  obtain ⟨v, _, rfl⟩ := List.mem_map.1 h
  rfl
theorem box_kept {l : List Itm} {b : Bx} (h : b ∈ tellAll l) (x : Itm) (hx : x ∈ l) (hok : x.2.ok) (hv : x.2.valid = b.valid) : x.2.kind ≠ 2 := by
  intro hk
  have hu : b.valid ∈ upOf (validK l) l := by rw [← boxes_valids]; exact List.mem_map_of_mem h
  refine bestR_none (mem_valids.1 hu).2 x hx ⟨hk, hv, ?_⟩
  have h4 := hok.2.2.2.1
  split at h4 <;> omega

end Go.Proofs.YtieenkloiicnkaaGreatDoor

/- How items lie in memory. -/
namespace Go.Proofs.YtieenkloiicnkaaGreatDoor
open Go.RowKit

def itE : Enc Itm where
  ty := 73
  sty := 27
  sz := 9
  bytes := 96
  zero := .agg #[.int .i64 0, .int .i64 0, .int .i64 0, .int .i64 0, .int .i64 0, .int .i64 0, .string ⟨#[]⟩, .string ⟨#[]⟩, .string ⟨#[]⟩]
  f := fun x => [.int .i64 x.1, .int .i64 x.2.kind, .int .i64 x.2.valid, .int .i64 x.2.uid, .int .i64 x.2.next, .int .i64 x.2.flags, .string x.2.user, .string x.2.name, .string x.2.text]
  len := fun _ => rfl
  pos := by decide
  one := fun _ u hu => by simp at hu; rcases hu with rfl | rfl | rfl | rfl | rfl | rfl | rfl | rfl | rfl <;> rfl
  und := Tryz.underlying27
  info := by kernel_rfl
  zc := rfl
  z0 := (0, Rc.nil)
  zf := rfl

/-- The nine cells of an item. -/
theorem it_cells {w w' : World} {g off : Nat} {l : List Itm} (hc : ∀ j x, l[j]? = some x → ∀ k u, (itE.f x)[k]? = some u → w.cell? ⟨g, off + j * itE.sz + k, none⟩ = some u)
    (hg : g < w.heap.size) (hb : Below w.heap.size w w') (i : Nat) (x : Itm) (hi : l[i]? = some x) :
    w'.cell? ⟨g, off + i * 9, none⟩ = some (.int .i64 x.1) ∧ w'.cell? ⟨g, off + i * 9 + 1, none⟩ = some (.int .i64 x.2.kind) ∧ w'.cell? ⟨g, off + i * 9 + 2, none⟩ = some (.int .i64 x.2.valid) ∧ w'.cell? ⟨g, off + i * 9 + 3, none⟩ = some (.int .i64 x.2.uid) ∧ w'.cell? ⟨g, off + i * 9 + 4, none⟩ = some (.int .i64 x.2.next) ∧
    w'.cell? ⟨g, off + i * 9 + 5, none⟩ = some (.int .i64 x.2.flags) ∧ w'.cell? ⟨g, off + i * 9 + 6, none⟩ = some (.string x.2.user) ∧ w'.cell? ⟨g, off + i * 9 + 7, none⟩ = some (.string x.2.name) ∧ w'.cell? ⟨g, off + i * 9 + 8, none⟩ = some (.string x.2.text) := by
  have h : ∀ k u, (itE.f x)[k]? = some u → w'.cell? ⟨g, off + i * 9 + k, none⟩ = some u := fun k u hu => (hb.cell (p := ⟨g, off + i * 9 + k, none⟩) hg).trans (hc i x hi k u hu)
  exact ⟨h 0 _ rfl, h 1 _ rfl, h 2 _ rfl, h 3 _ rfl, h 4 _ rfl, h 5 _ rfl, h 6 _ rfl, h 7 _ rfl, h 8 _ rfl⟩

end Go.Proofs.YtieenkloiicnkaaGreatDoor

/- How segments lie in memory: a row of segments, each with a row of items of its own. -/
namespace Go.Proofs.YtieenkloiicnkaaGreatDoor
open Go.RowKit

/-- A segment in use: its items are a list. -/
structure Sg where
  no : Int
  gen : Int
  ende : Int
  items : List Itm

/-- A segment as it lies in its row: its items are a slice. -/
structure SgH where
  no : Int
  gen : Int
  ende : Int
  a : Option Addr
  n : Nat
  c : Nat
def SgH.mv (h : SgH) : Value := .slice h.a h.n h.c

def sgE : Enc SgH where
  ty := 29
  sty := 53
  sz := 4
  bytes := 48
  zero := .agg #[.int .i64 0, .int .i64 0, .int .i64 0, .slice none 0 0]
  f := fun x => [.int .i64 x.no, .int .i64 x.gen, .int .i64 x.ende, .slice x.a x.n x.c]
  len := fun _ => rfl
  pos := by decide
  one := fun _ u hu => by simp at hu; rcases hu with rfl | rfl | rfl | rfl <;> rfl
  und := Tryz.underlying53
  info := by kernel_rfl
  zc := rfl
  z0 := ⟨0, 0, 0, none, 0, 0⟩
  zf := rfl

/-- Segments in memory of their own (blocks from B on): the row, and the items of each, all apart. -/
structure SgO (B : Nat) (w : World) (v : Value) (bs : List Sg) (hs : List SgH) : Prop where
  row : RBuf sgE B w w v hs
  len : hs.length = bs.length
  at' : ∀ (j : Nat) (h : SgH) (b : Sg), hs[j]? = some h → bs[j]? = some b → (h.no = b.no ∧ h.gen = b.gen ∧ h.ende = b.ende) ∧ RBuf itE B w w h.mv b.items
  far : ∀ (j : Nat) (h : SgH), hs[j]? = some h → ∀ k, h.mv.ownBlock = some k → v.ownBlock ≠ some k
  apart : ∀ (i j : Nat) (h h' : SgH), hs[i]? = some h → hs[j]? = some h' → i ≠ j → ∀ k, h.mv.ownBlock = some k → h'.mv.ownBlock ≠ some k

theorem RBuf.hereG {α : Type} {E : Enc α} {B : Nat} {w0 w w' : World} {v : Value} {l : List α} (h : RBuf E B w0 w v l) (hb : Below w.heap.size w w') : RBuf E B w' w' v l := (h.later hb).here
theorem SgO.later {B : Nat} {w w' : World} {v : Value} {bs : List Sg} {hs : List SgH} (h : SgO B w v bs hs) (hb : Below w.heap.size w w') : SgO B w' v bs hs :=
  ⟨h.row.hereG hb, h.len, fun j x b h1 h2 => ⟨(h.at' j x b h1 h2).1, (h.at' j x b h1 h2).2.hereG hb⟩, h.far, h.apart⟩
theorem SgO.nil (w : World) : SgO w.heap.size w (.slice none 0 0) [] [] :=
  ⟨RBuf.nil sgE w, rfl, fun j h b h1 => by simp at h1, fun j h h1 => by simp at h1, fun i j h h' h1 => by simp at h1⟩
/-- The items of a segment lie below the heap's end. -/
theorem SgO.lt {B : Nat} {w : World} {v : Value} {bs : List Sg} {hs : List SgH} (h : SgO B w v bs hs) {j : Nat} {x : SgH} (hj : hs[j]? = some x) {k : Nat} (hk : x.mv.ownBlock = some k) : k < w.heap.size := by
  have hl : j < hs.length := (List.getElem?_eq_some_iff.1 hj).1
  have hb : bs[j]? = some (bs[j]'(by rw [← h.len]; exact hl)) := List.getElem?_eq_getElem _
  exact ((h.at' j x _ hj hb).2.own.lt k hk).2

/-- One segment more: it was appended, its items lying in memory of their own. -/
theorem SgO.push {B : Nat} {w w' : World} {v v' : Value} {bs : List Sg} {hs : List SgH} (h : SgO B w v bs hs) (b : Sg) (x : SgH)
    (hx : x.no = b.no ∧ x.gen = b.gen ∧ x.ende = b.ende) (hm : RBuf itE B w w x.mv b.items)
    (hv : ∀ k, x.mv.ownBlock = some k → v.ownBlock ≠ some k) (ho : ∀ (j : Nat) (y : SgH), hs[j]? = some y → ∀ k, y.mv.ownBlock = some k → x.mv.ownBlock ≠ some k)
    (hr : RBuf sgE B w' w' v' (hs ++ [x])) (hg : w.grownBy w' v.ownBlock) (ha : v'.ownBlock = v.ownBlock ∨ v'.ownBlock = some w.heap.size) : SgO B w' v' (bs ++ [b]) (hs ++ [x]) := by
  have kept : ∀ (m : Value) (l : List Itm), RBuf itE B w w m l → (∀ k, m.ownBlock = some k → v.ownBlock ≠ some k) → RBuf itE B w' w' m l := fun m l hm hf => by
    refine hm.shift hg ?_
    cases hmb : m.ownBlock with
    | none => exact .inl rfl
    | some k => exact .inr (fun e => hf k hmb e.symm)
  have old : ∀ {j : Nat} {y : SgH}, (hs ++ [x])[j]? = some y → (hs[j]? = some y ∧ j < hs.length) ∨ (j = hs.length ∧ y = x) := fun {j y} hj => by
    by_cases c : j < hs.length
    · rw [List.getElem?_append_left c] at hj
      exact .inl ⟨hj, c⟩
    · rw [List.getElem?_append_right (by omega)] at hj
      have hj0 : j - hs.length = 0 := by
        have := (List.getElem?_eq_some_iff.1 hj).1
        simp at this; omega
      rw [hj0] at hj
      simp at hj
      exact .inr ⟨by omega, hj.symm⟩
  have hvlt : ∀ {k : Nat}, x.mv.ownBlock = some k → k < w.heap.size := fun {k} hk => (hm.own.lt k hk).2
  refine ⟨hr, by simp [h.len], fun j y c h1 h2 => ?_, fun j y h1 k hk => ?_, fun i j y z h1 h2 hij k hk => ?_⟩
  · rcases old h1 with ⟨h3, hl⟩ | ⟨rfl, rfl⟩
    · rw [List.getElem?_append_left (by rw [← h.len]; exact hl)] at h2
      exact ⟨(h.at' j y c h3 h2).1, kept _ _ (h.at' j y c h3 h2).2 (h.far j y h3)⟩
    · rw [List.getElem?_append_right (by rw [h.len]; omega), h.len] at h2
      simp at h2
      subst h2
      exact ⟨hx, kept _ _ hm hv⟩
  · rcases old h1 with ⟨h3, _⟩ | ⟨_, rfl⟩
    · rcases ha with e | e
      · rw [e]; exact h.far j y h3 k hk
      · rw [e]; intro e2; have := h.lt h3 hk; have := Option.some.inj e2; omega
    · rcases ha with e | e
      · rw [e]; exact hv k hk
      · rw [e]; intro e2; have := hvlt hk; have := Option.some.inj e2; omega
  · rcases old h1 with ⟨h3, hl3⟩ | ⟨ei, rfl⟩
    · rcases old h2 with ⟨h4, _⟩ | ⟨_, rfl⟩
      · exact h.apart i j y z h3 h4 hij k hk
      · exact ho i y h3 k hk
    · rcases old h2 with ⟨h4, _⟩ | ⟨ej, _⟩
      · intro e; exact ho j z h4 k e hk
      · omega
/-- What leaves the boxes' and the mails' blocks alone leaves them as they are. -/
theorem SgO.shift {B : Nat} {w w' : World} {v : Value} {bs : List Sg} {hs : List SgH} {r : Option Nat} (h : SgO B w v bs hs) (hg : w.grownBy w' r) (h1 : ∀ k, r = some k → v.ownBlock ≠ some k ∧ ∀ (j : Nat) (x : SgH), hs[j]? = some x → x.mv.ownBlock ≠ some k) : SgO B w' v bs hs := by
  have sh : ∀ {α : Type} {E : Enc α} {m : Value} {l : List α}, RBuf E B w w m l → (∀ k, r = some k → m.ownBlock ≠ some k) → RBuf E B w' w' m l := fun {α E m l} hm hf => by
    refine hm.shift hg ?_
    cases hb : m.ownBlock with
    | none => exact .inl rfl
    | some k => exact .inr (fun e => hf k e.symm hb)
  exact ⟨sh h.row (fun k hk => (h1 k hk).1), h.len, fun j x b e1 e2 => ⟨(h.at' j x b e1 e2).1, sh (h.at' j x b e1 e2).2 (fun k hk => (h1 k hk).2 j x e1)⟩, h.far, h.apart⟩
/-- Where they lie: from B on, and below the heap's end. -/
theorem SgO.where' {B : Nat} {w : World} {v : Value} {bs : List Sg} {hs : List SgH} (h : SgO B w v bs hs) : (∀ k, v.ownBlock = some k → B ≤ k ∧ k < w.heap.size) ∧ ∀ (j : Nat) (x : SgH), hs[j]? = some x → ∀ k, x.mv.ownBlock = some k → B ≤ k ∧ k < w.heap.size := by
  refine ⟨fun k hk => h.row.own.lt k hk, fun j x hj k hk => ?_⟩
  have hl : j < hs.length := (List.getElem?_eq_some_iff.1 hj).1
  have hb : bs[j]? = some (bs[j]'(by rw [← h.len]; exact hl)) := List.getElem?_eq_getElem _
  exact (h.at' j x _ hj hb).2.own.lt k hk
/-- What is written from B' on, above them, leaves them. -/
theorem SgO.under {B C : Nat} {w w' : World} {v : Value} {bs : List Sg} {hs : List SgH} (h : SgO B w v bs hs) (hb : Below C w w') (h1 : ∀ k, v.ownBlock = some k → k < C) (h2 : ∀ (j : Nat) (x : SgH), hs[j]? = some x → ∀ k, x.mv.ownBlock = some k → k < C) : SgO B w' v bs hs := by
  have sh : ∀ {α : Type} {E : Enc α} {m : Value} {l : List α}, RBuf E B w w m l → (∀ k, m.ownBlock = some k → k < C) → RBuf E B w' w' m l := fun {α E m l} hm hf => by
    refine ⟨⟨hm.own.1, ?_⟩, Below.refl _ _, Nat.le_trans hm.le hb.size⟩
    rcases hm.own.2 with e | ⟨g, cap, cur, rfl, hg, hh, hrest⟩
    · exact .inl e
    · exact .inr ⟨g, cap, cur, rfl, hg, (hb.block g (hf g rfl)).trans hh, hrest⟩
  exact ⟨sh h.row h1, h.len, fun j x b e1 e2 => ⟨(h.at' j x b e1 e2).1, sh (h.at' j x b e1 e2).2 (h2 j x e1)⟩, h.far, h.apart⟩
theorem SgO.lower {B B0 : Nat} {w : World} {v : Value} {bs : List Sg} {hs : List SgH} (h : SgO B w v bs hs) (hB : B0 ≤ B) : SgO B0 w v bs hs :=
  ⟨h.row.lower hB, h.len, fun j x b h1 h2 => ⟨(h.at' j x b h1 h2).1, (h.at' j x b h1 h2).2.lower hB⟩, h.far, h.apart⟩

end Go.Proofs.YtieenkloiicnkaaGreatDoor

/- A segment as it is on a disk: its items, and while they are gathered. -/
namespace Go.Proofs.YtieenkloiicnkaaGreatDoor
open Go.RowKit

/-- The item of a frame, if it is one. -/
def fiO (f : Fr) : Option Itm := if f.ok then (rrO f.body).map (fun r => (f.seq, r)) else none
theorem fiT_some' {f : Fr} {x : Itm} (h : fiO f = some x) : fiT f = .tuple #[itV x.1 x.2, .bool true] := by
  unfold fiO at h
  by_cases c : f.ok
  · rw [if_pos c] at h
    cases hr : rrO f.body with
    | none => rw [hr] at h; cases h
    | some r => rw [hr] at h; cases h; exact fiT_some c hr
  · rw [if_neg c] at h; cases h
theorem fiT_none' {f : Fr} (h : fiO f = none) : fiT f = .tuple #[itV 0 Rc.nil, .bool false] := by
  unfold fiO at h
  by_cases c : f.ok
  · rw [if_pos c] at h
    cases hr : rrO f.body with
    | none => exact fiT_none hr
    | some r => rw [hr] at h; cases h
  · exact fiT_out c
/-- The items of a segment's text. -/
def sgI (t : ByteArray) : List Itm := (sfL t).filterMap fiO
theorem sgI_le (t : ByteArray) : (sgI t).length ≤ t.size := Nat.le_trans (List.length_filterMap_le _ _) (sfL_le t)
/-- A segment as it is on a disk. -/
def sgOf (d : Dk) (s : Int) : Sg := ⟨s, sgG (sgT d s), (sfE (sgT d s) : Int), sgI (sgT d s)⟩
theorem sfL_ok (t : ByteArray) : ∀ f ∈ sfL t, f.ok := by
  intro f hf
  unfold sfL at hf
  split at hf
  · cases hf
  · have h1 := List.mem_of_mem_drop hf
    unfold scanL scan at h1
    obtain ⟨x, hx, rfl⟩ := List.mem_map.1 h1
    exact ((sq_all (four := fourOf) (s := t) (g := sgG t) (k := 0) (Nat.zero_le _)).1 x hx).1
theorem items_take_some {fs : List Fr} {i : Nat} {f : Fr} {x : Itm} (h : fs[i]? = some f) (hx : fiO f = some x) : (fs.take (i + 1)).filterMap fiO = (fs.take i).filterMap fiO ++ [x] := by
  rw [List.take_add_one, h, List.filterMap_append]
  simp [hx]
theorem items_take_none {fs : List Fr} {i : Nat} {f : Fr} (h : fs[i]? = some f) (hx : fiO f = none) : (fs.take (i + 1)).filterMap fiO = (fs.take i).filterMap fiO := by
  rw [List.take_add_one, h, List.filterMap_append]
  simp [hx]
theorem items_take_le (fs : List Fr) (i : Nat) : ((fs.take i).filterMap fiO).length ≤ fs.length := by
  refine Nat.le_trans (List.length_filterMap_le _ _) ?_
  rw [List.length_take]; omega

/-- Frames, as a loop reads them. -/
theorem Rows'.framesG {w : World} {v : Value} {l : List Fr} (h : Rows' frE w v l) : ∃ (ad : Option Addr) (cap : Nat), v = .slice ad l.length cap ∧ ∀ X, Below w.heap.size w X → ∀ (i : Nat) (f : Fr), l[i]? = some f → ∃ g off : Nat, ad = some ⟨g, off, none⟩ ∧
    X.cell? ⟨g, off + i * 3, none⟩ = some (.int .i64 f.gen) ∧ X.cell? ⟨g, off + i * 3 + 1, none⟩ = some (.int .i64 f.seq) ∧ X.cell? ⟨g, off + i * 3 + 2, none⟩ = some (.string f.body) := by
  rcases h.ways with ⟨rfl, a, c, rfl⟩ | ⟨hne, g, off, c, rfl, hc, hg, hcl⟩
  · exact ⟨a, c, rfl, fun X _ i b hi => by cases hi⟩
  · refine ⟨_, c, rfl, fun X hb i f hi => ⟨g, off, rfl, ?_, ?_, ?_⟩⟩
    · exact (hb.cell (p := ⟨g, off + i * 3, none⟩) hg).trans (hcl i f hi 0 _ rfl)
    · exact (hb.cell (p := ⟨g, off + i * 3 + 1, none⟩) hg).trans (hcl i f hi 1 _ rfl)
    · exact (hb.cell (p := ⟨g, off + i * 3 + 2, none⟩) hg).trans (hcl i f hi 2 _ rfl)

theorem Box.butG {w X : World} {b : Nat} {cs : Array Value} {t : TypeId} {r : Option Nat} (h : Box w b cs t) (hg : w.grownBy X r) (hne : ∀ k, r = some k → k ≠ b) : Box X b cs t := (hg.block b h.lt (fun e => hne b e.symm rfl)).trans h
theorem Box.fourG {w : World} {b : Nat} {u0 u1 u2 u3 : Value} {t : TypeId} (h : Box w b #[u0, u1, u2, u3] t) : w.cell? ⟨b, 0, none⟩ = some u0 ∧ w.cell? ⟨b, 1, none⟩ = some u1 ∧ w.cell? ⟨b, 2, none⟩ = some u2 ∧ w.cell? ⟨b, 3, none⟩ = some u3 ∧ w.frozen? ⟨b, 0, none⟩ = false ∧ w.frozen? ⟨b, 1, none⟩ = false ∧ w.frozen? ⟨b, 2, none⟩ = false ∧ w.frozen? ⟨b, 3, none⟩ = false :=
  ⟨h.cell 0 _ rfl, h.cell 1 _ rfl, h.cell 2 _ rfl, h.cell 3 _ rfl, h.loose 0, h.loose 1, h.loose 2, h.loose 3⟩
theorem Box.set4G {w : World} {b : Nat} {u0 u1 u2 u3 : Value} {t : TypeId} (h : Box w b #[u0, u1, u2, u3] t) (v0 v1 v2 v3 : Value) : Box ((((w.setCell ⟨b, 0, none⟩ v0).setCell ⟨b, 1, none⟩ v1).setCell ⟨b, 2, none⟩ v2).setCell ⟨b, 3, none⟩ v3) b #[v0, v1, v2, v3] t := (((h.set 0 v0).set 1 v1).set 2 v2).set 3 v3
theorem RBuf.set4G {α : Type} {E : Enc α} {B g : Nat} {w0 x : World} {v : Value} {l : List α} (h : RBuf E B x x v l) (hb : Below w0.heap.size w0 x) (hB : w0.heap.size ≤ B) (hg : g < B) (hw : w0.heap.size ≤ g) (v0 v1 v2 v3 : Value) : RBuf E w0.heap.size w0 ((((x.setCell ⟨g, 0, none⟩ v0).setCell ⟨g, 1, none⟩ v1).setCell ⟨g, 2, none⟩ v2).setCell ⟨g, 3, none⟩ v3) v l := by
  have hne : v.ownBlock = none ∨ v.ownBlock ≠ some g := .inr (fun e => by have := (h.own.lt g e).1; omega)
  have h0 := h.shift (stored_grown _ g 0 v0) hne
  have h1 := h0.shift (stored_grown _ g 1 v1) hne
  have h2 := h1.shift (stored_grown _ g 2 v2) hne
  have h3 := h2.shift (stored_grown _ g 3 v3) hne
  exact h3.down ((((hb.setCell (p := ⟨g, 0, none⟩) hw v0).setCell (p := ⟨g, 1, none⟩) hw v1).setCell (p := ⟨g, 2, none⟩) hw v2).setCell (p := ⟨g, 3, none⟩) hw v3) hB
theorem Box.nineG {w : World} {b : Nat} {u0 u1 u2 u3 u4 u5 u6 u7 u8 : Value} {t : TypeId} (h : Box w b #[u0, u1, u2, u3, u4, u5, u6, u7, u8] t) : w.cell? ⟨b, 0, none⟩ = some u0 ∧ w.cell? ⟨b, 1, none⟩ = some u1 ∧ w.cell? ⟨b, 2, none⟩ = some u2 ∧ w.cell? ⟨b, 3, none⟩ = some u3 ∧ w.cell? ⟨b, 4, none⟩ = some u4 ∧ w.cell? ⟨b, 5, none⟩ = some u5 ∧ w.cell? ⟨b, 6, none⟩ = some u6 ∧ w.cell? ⟨b, 7, none⟩ = some u7 ∧ w.cell? ⟨b, 8, none⟩ = some u8 :=
  ⟨h.cell 0 _ rfl, h.cell 1 _ rfl, h.cell 2 _ rfl, h.cell 3 _ rfl, h.cell 4 _ rfl, h.cell 5 _ rfl, h.cell 6 _ rfl, h.cell 7 _ rfl, h.cell 8 _ rfl⟩

/-- While the items of a segment are gathered, in a box of the call's own behind the world w1. -/
structure SgL (w1 : World) (B : Nat) (tS : TypeId) (no gn en : Int) (x : World) (a : Option Addr) (cap : Nat) (l : List Itm) : Prop where
  seg : Box x w1.heap.size #[.int .i64 no, .int .i64 gn, .int .i64 en, .slice a l.length cap] tS
  its : RBuf itE B x x (.slice a l.length cap) l
  bel : Below w1.heap.size w1 x
  lt : w1.heap.size < B
theorem SgL.later {w1 : World} {B : Nat} {tS : TypeId} {no gn en : Int} {x y : World} {a : Option Addr} {cap : Nat} {l : List Itm} (h : SgL w1 B tS no gn en x a cap l) (hb : Below x.heap.size x y) : SgL w1 B tS no gn en y a cap l :=
  ⟨h.seg.later hb, (h.its.later hb).here, h.bel.trans (hb.mono h.bel.size), h.lt⟩
theorem SgL.push {w1 : World} {B : Nat} {tS : TypeId} {no gn en : Int} {x y : World} {a : Option Addr} {cap : Nat} {l m : List Itm} (h : SgL w1 B tS no gn en x a cap l)
    (a2 : Option Addr) (c2 : Nat) (hr : RBuf itE B y y (.slice a2 m.length c2) m) (hg : x.grownBy y (Value.slice a l.length cap).ownBlock) : SgL w1 B tS no gn en (y.setCell ⟨w1.heap.size, 3, none⟩ (.slice a2 m.length c2)) a2 c2 m := by
  have hne : ∀ k, (Value.slice a l.length cap).ownBlock = some k → B ≤ k := fun k hk => (h.its.own.lt k hk).1
  have b3 := h.seg.butG hg (fun k hk => by have := hne k hk; have := h.lt; omega)
  refine ⟨b3.set 3 _, hr.shift (stored_grown _ w1.heap.size 3 _) ?_, (h.bel.grown hg h.bel.size (fun k hk => by have := hne k hk; have := h.lt; omega)).setCell (p := ⟨w1.heap.size, 3, none⟩) (Nat.le_refl _) _, h.lt⟩
  cases hb : (Value.slice a2 m.length c2).ownBlock with
  | none => exact .inl rfl
  | some k =>
    right
    intro e
    have e1 : k = w1.heap.size := Option.some.inj e
    have := (hr.own.lt k hb).1
    have := h.lt
    omega
/-- The cells behind the append. -/
theorem SgL.cells {w1 : World} {B : Nat} {tS : TypeId} {no gn en : Int} {x y : World} {a : Option Addr} {cap : Nat} {l : List Itm} (h : SgL w1 B tS no gn en x a cap l)
    (hg : x.grownBy y (Value.slice a l.length cap).ownBlock) : y.cell? ⟨w1.heap.size, 3, none⟩ = some (.slice a l.length cap) ∧ y.frozen? ⟨w1.heap.size, 3, none⟩ = false := by
  have hne : ∀ k, (Value.slice a l.length cap).ownBlock = some k → B ≤ k := fun k hk => (h.its.own.lt k hk).1
  have b3 := h.seg.butG hg (fun k hk => by have := hne k hk; have := h.lt; omega)
  exact ⟨b3.cell 3 _ rfl, b3.loose 3⟩
/-- What SegOf hands back. -/
def SoR (s : Sg) (w : World) (e : Ending) (w' : World) : Prop := ∃ (a : Option Addr) (cap : Nat), e = .returned (.agg #[.int .i64 s.no, .int .i64 s.gen, .int .i64 s.ende, .slice a s.items.length cap]) ∧ RBuf itE w.heap.size w w' (.slice a s.items.length cap) s.items

end Go.Proofs.YtieenkloiicnkaaGreatDoor
