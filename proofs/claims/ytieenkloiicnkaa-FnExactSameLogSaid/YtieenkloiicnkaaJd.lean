/- Texts of our own, joined. -/
import Derived.Test.YtieenkloiicnkaaJc
import Derived.Test.YtieenkloiicnkaaJb
import Derived.Test.YtieenkloiicnkaaJa
import Derived.Lib.Hide
import Derived.Laws.StructEq
/- What records tell, plainly: whatever the order in which they lie, and however often one lies there. -/
namespace Go.Proofs.Ytieenkloiicnkaa

/-- An item: its number and its record. -/
abbrev Itm := Int × Rc

/-- x stands ahead of y: by the key, and of two with one key by the number. -/
def aheadB (k : Itm → Int) (x y : Itm) : Bool := decide (k y < k x ∨ (k x = k y ∧ y.1 < x.1))

/-- One step of the choice. -/
def bestStep (k : Itm → Int) (p : Itm → Bool) (o : Option Itm) (x : Itm) : Option Itm :=
  if p x = true then (match o with
    | none => some x
    | some y => if aheadB k x y = true then some x else some y) else o
/-- The first of those that p takes. -/
def bestO (k : Itm → Int) (p : Itm → Bool) (l : List Itm) : Option Itm := l.foldl (bestStep k p) none

/-- What the choice has seen. -/
def BestI (k : Itm → Int) (p : Itm → Bool) (l : List Itm) (o : Option Itm) : Prop :=
  match o with
  | none => ∀ y ∈ l, p y = false
  | some x => x ∈ l ∧ p x = true ∧ ∀ y ∈ l, p y = true → k y < k x ∨ (k y = k x ∧ y.1 ≤ x.1)

theorem bestStep_I {k : Itm → Int} {p : Itm → Bool} {l : List Itm} {o : Option Itm} (h : BestI k p l o) (x : Itm) : BestI k p (l ++ [x]) (bestStep k p o x) := by
  unfold bestStep
  by_cases hp : p x = true
  · rw [if_pos hp]
    cases o with
    | none =>
      refine ⟨by simp, hp, fun y hy hpy => ?_⟩
      rcases List.mem_append.1 hy with hy | hy
      · rw [h y hy] at hpy; cases hpy
      · rw [List.mem_singleton.1 hy]; exact .inr ⟨rfl, Int.le_refl _⟩
    | some z =>
      obtain ⟨h1, h2, h3⟩ := h
      dsimp only
      by_cases ha : aheadB k x z = true
      · rw [if_pos ha]
        have ha := of_decide_eq_true ha
        refine ⟨by simp, hp, fun y hy hpy => ?_⟩
        rcases List.mem_append.1 hy with hy | hy
        · have := h3 y hy hpy; omega
        · rw [List.mem_singleton.1 hy]; exact .inr ⟨rfl, Int.le_refl _⟩
      · rw [if_neg ha]
        have ha : ¬ (k z < k x ∨ (k x = k z ∧ z.1 < x.1)) := fun c => ha (decide_eq_true c)
        refine ⟨List.mem_append_left _ h1, h2, fun y hy hpy => ?_⟩
        rcases List.mem_append.1 hy with hy | hy
        · exact h3 y hy hpy
        · rw [List.mem_singleton.1 hy]; omega
  · rw [if_neg hp]
    have hp : p x = false := by simpa using hp
    cases o with
    | none =>
      intro y hy
      rcases List.mem_append.1 hy with hy | hy
      · exact h y hy
      · rw [List.mem_singleton.1 hy]; exact hp
    | some z =>
      obtain ⟨h1, h2, h3⟩ := h
      refine ⟨List.mem_append_left _ h1, h2, fun y hy hpy => ?_⟩
      rcases List.mem_append.1 hy with hy | hy
      · exact h3 y hy hpy
      · rw [List.mem_singleton.1 hy, hp] at hpy; cases hpy

theorem bestFold_I {k : Itm → Int} {p : Itm → Bool} : ∀ (m l : List Itm) (o : Option Itm), BestI k p l o → BestI k p (l ++ m) (m.foldl (bestStep k p) o)
  | [], l, o, h => by rw [List.append_nil]; exact h
  | x :: m, l, o, h => by
    have := bestFold_I m (l ++ [x]) _ (bestStep_I h x)
    rw [List.append_assoc] at this
    exact this

theorem bestO_I (k : Itm → Int) (p : Itm → Bool) (l : List Itm) : BestI k p l (bestO k p l) := by
  have := bestFold_I (k := k) (p := p) l [] none (fun y hy => by cases hy)
  exact this

/-- No number lies twice with two records. -/
def Uniq (l : List Itm) : Prop := ∀ x ∈ l, ∀ y ∈ l, x.1 = y.1 → x = y

theorem BestI.same {k : Itm → Int} {p : Itm → Bool} {l m : List Itm} {o o' : Option Itm} (hu : Uniq l) (hm : ∀ x, x ∈ l ↔ x ∈ m) (h : BestI k p l o) (h' : BestI k p m o') : o = o' := by
  cases o with
  | none =>
    cases o' with
    | none => rfl
    | some y => have := h y ((hm y).2 h'.1); rw [h'.2.1] at this; cases this
  | some x =>
    cases o' with
    | none => have := h' x ((hm x).1 h.1); rw [h.2.1] at this; cases this
    | some y =>
      have a := h.2.2 y ((hm y).2 h'.1) h'.2.1
      have b := h'.2.2 x ((hm x).1 h.1) h.2.1
      rw [hu x h.1 y ((hm y).2 h'.1) (by omega)]

/-- The choice hangs on what lies there, not on where. -/
theorem bestO_same {k : Itm → Int} {p : Itm → Bool} {l m : List Itm} (hu : Uniq l) (hm : ∀ x, x ∈ l ↔ x ∈ m) : bestO k p l = bestO k p m :=
  (bestO_I k p l).same hu hm (bestO_I k p m)

/-- A number put into its place. -/
def insI (l : List Int) (x : Int) : List Int := l.filter (fun y => decide (y < x)) ++ (x :: l.filter (fun y => decide (x < y)))
theorem mem_insI {l : List Int} {x y : Int} : y ∈ insI l x ↔ y = x ∨ y ∈ l := by
  unfold insI
  simp only [List.mem_append, List.mem_cons, List.mem_filter, decide_eq_true_eq]
  constructor
  · rintro (⟨h, _⟩ | h | ⟨h, _⟩)
    · exact .inr h
    · exact .inl h
    · exact .inr h
  · rintro (h | h)
    · exact .inr (.inl h)
    · by_cases h1 : y < x
      · exact .inl ⟨h, h1⟩
      · by_cases h2 : x < y
        · exact .inr (.inr ⟨h, h2⟩)
        · exact .inr (.inl (by omega))
theorem insI_up {l : List Int} {x : Int} (h : l.Pairwise (· < ·)) : (insI l x).Pairwise (· < ·) := by
  unfold insI
  rw [List.pairwise_append]
  refine ⟨h.filter _, ?_, ?_⟩
  · rw [List.pairwise_cons]
    exact ⟨fun y hy => by simpa using (List.mem_filter.1 hy).2, h.filter _⟩
  · intro a ha b hb
    have ha := (List.mem_filter.1 ha).2
    simp only [decide_eq_true_eq] at ha
    rcases List.mem_cons.1 hb with rfl | hb
    · exact ha
    · have hb := (List.mem_filter.1 hb).2
      simp only [decide_eq_true_eq] at hb
      omega

/-- Two rising rows of the same numbers are one. -/
theorem up_same : ∀ {l m : List Int}, l.Pairwise (· < ·) → m.Pairwise (· < ·) → (∀ x, x ∈ l ↔ x ∈ m) → l = m
  | [], [], _, _, _ => rfl
  | [], y :: m, _, _, h => by have := (h y).2 (by simp); cases this
  | x :: l, [], _, _, h => by have := (h x).1 (by simp); cases this
  | x :: l, y :: m, hl, hm, h => by
    rw [List.pairwise_cons] at hl hm
    have e : x = y := by
      rcases List.mem_cons.1 ((h x).1 (by simp)) with e | hx
      · exact e
      · rcases List.mem_cons.1 ((h y).2 (by simp)) with e | hy
        · exact e.symm
        · have := hl.1 y hy; have := hm.1 x hx; omega
    subst e
    rw [up_same hl.2 hm.2 (fun z => ?_)]
    constructor
    · intro hz
      rcases List.mem_cons.1 ((h z).1 (List.mem_cons_of_mem _ hz)) with e | hz'
      · have := hl.1 z hz; omega
      · exact hz'
    · intro hz
      rcases List.mem_cons.1 ((h z).2 (List.mem_cons_of_mem _ hz)) with e | hz'
      · have := hm.1 z hz; omega
      · exact hz'

/-- The numbers that f takes out of the items, rising. -/
def upOf (f : Itm → Option Int) (l : List Itm) : List Int := l.foldl (fun o x => match f x with | some n => insI o n | none => o) []
theorem upFold (f : Itm → Option Int) : ∀ (l : List Itm) (o : List Int), o.Pairwise (· < ·) →
    (l.foldl (fun o x => match f x with | some n => insI o n | none => o) o).Pairwise (· < ·) ∧
    ∀ n, n ∈ l.foldl (fun o x => match f x with | some n => insI o n | none => o) o ↔ n ∈ o ∨ ∃ x ∈ l, f x = some n
  | [], o, h => ⟨h, fun n => by simp⟩
  | x :: l, o, h => by
    rw [List.foldl_cons]
    cases hf : f x with
    | none =>
      obtain ⟨a, b⟩ := upFold f l o h
      refine ⟨a, fun n => ?_⟩
      rw [b n]
      constructor
      · rintro (h | ⟨y, hy, e⟩)
        · exact .inl h
        · exact .inr ⟨y, List.mem_cons_of_mem _ hy, e⟩
      · rintro (h | ⟨y, hy, e⟩)
        · exact .inl h
        · rcases List.mem_cons.1 hy with rfl | hy
          · rw [hf] at e; cases e
          · exact .inr ⟨y, hy, e⟩
    | some k =>
      obtain ⟨a, b⟩ := upFold f l (insI o k) (insI_up h)
      refine ⟨a, fun n => ?_⟩
      rw [b n, mem_insI]
      constructor
      · rintro ((rfl | h) | ⟨y, hy, e⟩)
        · exact .inr ⟨x, by simp, hf⟩
        · exact .inl h
        · exact .inr ⟨y, List.mem_cons_of_mem _ hy, e⟩
      · rintro (h | ⟨y, hy, e⟩)
        · exact .inl (.inr h)
        · rcases List.mem_cons.1 hy with rfl | hy
          · rw [hf] at e; cases e; exact .inl (.inl rfl)
          · exact .inr ⟨y, hy, e⟩
theorem upOf_up (f : Itm → Option Int) (l : List Itm) : (upOf f l).Pairwise (· < ·) := (upFold f l [] List.Pairwise.nil).1
theorem mem_upOf {f : Itm → Option Int} {l : List Itm} {n : Int} : n ∈ upOf f l ↔ ∃ x ∈ l, f x = some n := by
  have := (upFold f l [] List.Pairwise.nil).2 n
  rw [upOf, this]; simp
theorem upOf_same {f g : Itm → Option Int} {l m : List Itm} (hm : ∀ x, x ∈ l ↔ x ∈ m) (hf : ∀ x ∈ l, f x = g x) : upOf f l = upOf g m :=
  up_same (upOf_up f l) (upOf_up g m) (fun n => by
    rw [mem_upOf, mem_upOf]
    constructor
    · rintro ⟨x, hx, e⟩; exact ⟨x, (hm x).1 hx, by rw [← hf x hx]; exact e⟩
    · rintro ⟨x, hx, e⟩; exact ⟨x, (hm x).2 hx, by rw [hf x ((hm x).2 hx)]; exact e⟩)

/-- The greatest of what f takes out, and of b. -/
def mostOf (b : Int) (f : Itm → Int) (l : List Itm) : Int := l.foldl (fun n x => if n < f x then f x else n) b
theorem mostFold (f : Itm → Int) : ∀ (l : List Itm) (b : Int), b ≤ l.foldl (fun n x => if n < f x then f x else n) b ∧ (∀ x ∈ l, f x ≤ l.foldl (fun n x => if n < f x then f x else n) b) ∧
    (l.foldl (fun n x => if n < f x then f x else n) b = b ∨ ∃ x ∈ l, l.foldl (fun n x => if n < f x then f x else n) b = f x)
  | [], b => ⟨Int.le_refl _, fun x hx => (by cases hx), .inl rfl⟩
  | x :: l, b => by
    rw [List.foldl_cons]
    obtain ⟨a1, a2, a3⟩ := mostFold f l (if b < f x then f x else b)
    have hb : b ≤ (if b < f x then f x else b) ∧ f x ≤ (if b < f x then f x else b) ∧ ((if b < f x then f x else b) = b ∨ (if b < f x then f x else b) = f x) := by
      split
      · exact ⟨by omega, by omega, .inr rfl⟩
      · exact ⟨by omega, by omega, .inl rfl⟩
    refine ⟨Int.le_trans hb.1 a1, fun y hy => ?_, ?_⟩
    · rcases List.mem_cons.1 hy with rfl | hy
      · exact Int.le_trans hb.2.1 a1
      · exact a2 y hy
    · rcases a3 with e | ⟨y, hy, e⟩
      · rw [e]
        rcases hb.2.2 with h | h
        · exact .inl h
        · exact .inr ⟨x, by simp, h⟩
      · exact .inr ⟨y, List.mem_cons_of_mem _ hy, e⟩
theorem mostOf_same {b : Int} {f : Itm → Int} {l m : List Itm} (hm : ∀ x, x ∈ l ↔ x ∈ m) : mostOf b f l = mostOf b f m := by
  obtain ⟨a1, a2, a3⟩ := mostFold f l b
  obtain ⟨b1, b2, b3⟩ := mostFold f m b
  unfold mostOf
  have h1 : l.foldl (fun n x => if n < f x then f x else n) b ≤ m.foldl (fun n x => if n < f x then f x else n) b := by
    rcases a3 with e | ⟨x, hx, e⟩
    · rw [e]; exact b1
    · rw [e]; exact b2 x ((hm x).1 hx)
  have h2 : m.foldl (fun n x => if n < f x then f x else n) b ≤ l.foldl (fun n x => if n < f x then f x else n) b := by
    rcases b3 with e | ⟨x, hx, e⟩
    · rw [e]; exact a1
    · rw [e]; exact a2 x ((hm x).2 hx)
  omega

/-- A mail, and a box. -/
structure Ml where
  uid : Int
  flags : Int
  text : ByteArray
structure Bx where
  valid : Int
  user : ByteArray
  name : ByteArray
  next : Int
  mails : List Ml

/-- The record of a kind, a box and a mail with the greatest number. -/
def bestR (kind valid uid : Int) (l : List Itm) : Option Itm := bestO (fun _ => 0) (fun x => decide (x.2.kind = kind ∧ x.2.valid = valid ∧ x.2.uid = uid)) l
/-- The record of a box that tells its user and name. -/
def tellO (valid : Int) (l : List Itm) : Option Itm := bestO (fun x => x.2.next) (fun x => decide (x.2.kind = 1 ∧ x.2.valid = valid)) l
/-- What one record says of the next mail's number. -/
def nextK (valid : Int) (x : Itm) : Int := if x.2.valid = valid then (if x.2.kind = 1 then x.2.next else if x.2.kind = 3 ∨ x.2.kind = 5 then x.2.uid + 1 else 0) else 0
def nextOf (valid : Int) (l : List Itm) : Int := mostOf 1 (nextK valid) l
def uidK (valid : Int) (l : List Itm) (x : Itm) : Option Int := if x.2.kind = 3 ∧ x.2.valid = valid ∧ bestR 5 valid x.2.uid l = none then some x.2.uid else none
def mailK (valid : Int) (l : List Itm) (u : Int) : Ml :=
  ⟨u, ((bestR 4 valid u l).or (bestR 3 valid u l)).elim 0 (fun y => y.2.flags), (bestR 3 valid u l).elim emp (fun y => y.2.text)⟩
def mailsOf (valid : Int) (l : List Itm) : List Ml := (upOf (uidK valid l) l).map (mailK valid l)
def validK (l : List Itm) (x : Itm) : Option Int := if x.2.kind = 1 ∧ bestR 2 x.2.valid 0 l = none then some x.2.valid else none
def boxK (l : List Itm) (v : Int) : Bx := ⟨v, (tellO v l).elim emp (fun y => y.2.user), (tellO v l).elim emp (fun y => y.2.name), nextOf v l, mailsOf v l⟩
/-- Right items. -/
def itemsOk (l : List Itm) : Prop := (∀ x ∈ l, (1 ≤ x.1 ∧ x.1 ≤ 1000000000) ∧ x.2.ok) ∧ Uniq l ∧ l.length ≤ 200
/-- What right items tell. -/
def tellAll (l : List Itm) : List Bx := (upOf (validK l) l).map (boxK l)

theorem mailsOf_same {l m : List Itm} (hu : Uniq l) (hm : ∀ x, x ∈ l ↔ x ∈ m) (v : Int) : mailsOf v l = mailsOf v m := by
  have hb : ∀ k v u, bestR k v u l = bestR k v u m := fun k v u => bestO_same hu hm
  have e1 : uidK v l = uidK v m := by funext x; unfold uidK; rw [hb]
  have e2 : mailK v l = mailK v m := by funext u; unfold mailK; rw [hb, hb]
  unfold mailsOf
  rw [e2, e1, upOf_same hm (fun x _ => rfl)]
/-- All is told the same, in whatever order the records lie, and however often one lies there. -/
theorem tellAll_same {l m : List Itm} (hu : Uniq l) (hm : ∀ x, x ∈ l ↔ x ∈ m) : tellAll l = tellAll m := by
  have hb : ∀ k v u, bestR k v u l = bestR k v u m := fun k v u => bestO_same hu hm
  have ht : ∀ v, tellO v l = tellO v m := fun v => bestO_same hu hm
  have e1 : validK l = validK m := by funext x; unfold validK; rw [hb]
  have e2 : boxK l = boxK m := by funext v; unfold boxK nextOf; rw [ht, mailsOf_same hu hm, mostOf_same hm]
  unfold tellAll
  rw [e2, e1, upOf_same hm (fun x _ => rfl)]

theorem bestR_none {kind valid uid : Int} {l : List Itm} (h : bestR kind valid uid l = none) (x : Itm) (hx : x ∈ l) : ¬ (x.2.kind = kind ∧ x.2.valid = valid ∧ x.2.uid = uid) := by
  have := bestO_I (fun _ => 0) (fun x => decide (x.2.kind = kind ∧ x.2.valid = valid ∧ x.2.uid = uid)) l
  unfold bestR at h
  rw [h] at this
  exact of_decide_eq_false (this x hx)
theorem bestR_some {kind valid uid : Int} {l : List Itm} {x : Itm} (h : bestR kind valid uid l = some x) : x ∈ l ∧ (x.2.kind = kind ∧ x.2.valid = valid ∧ x.2.uid = uid) ∧ ∀ y ∈ l, y.2.kind = kind → y.2.valid = valid → y.2.uid = uid → y.1 ≤ x.1 := by
  have := bestO_I (fun _ => 0) (fun x => decide (x.2.kind = kind ∧ x.2.valid = valid ∧ x.2.uid = uid)) l
  unfold bestR at h
  rw [h] at this
  refine ⟨this.1, of_decide_eq_true this.2.1, fun y hy a b c => ?_⟩
  have := this.2.2 y hy (decide_eq_true ⟨a, b, c⟩)
  dsimp only at this
  omega
theorem bestR_there {kind valid uid : Int} {l : List Itm} {x : Itm} (hx : x ∈ l) (h : x.2.kind = kind ∧ x.2.valid = valid ∧ x.2.uid = uid) : ∃ y, bestR kind valid uid l = some y := by
  cases hb : bestR kind valid uid l with
  | none => exact absurd h (bestR_none hb x hx)
  | some y => exact ⟨y, rfl⟩

/-- The numbers of a box's mails: added, and not gone. -/
theorem mem_uids {v : Int} {l : List Itm} {n : Int} : n ∈ upOf (uidK v l) l ↔ (∃ x ∈ l, x.2.kind = 3 ∧ x.2.valid = v ∧ x.2.uid = n) ∧ bestR 5 v n l = none := by
  rw [mem_upOf]
  constructor
  · rintro ⟨x, hx, e⟩
    unfold uidK at e
    split at e
    · rename_i h
      cases e
      exact ⟨⟨x, hx, h.1, h.2.1, rfl⟩, h.2.2⟩
    · cases e
  · rintro ⟨⟨x, hx, a, b, rfl⟩, h⟩
    refine ⟨x, hx, ?_⟩
    unfold uidK
    rw [if_pos ⟨a, b, h⟩]
theorem mails_uids (v : Int) (l : List Itm) : (mailsOf v l).map (·.uid) = upOf (uidK v l) l := by
  unfold mailsOf
  rw [List.map_map]
  exact List.map_id' _
theorem mails_up (v : Int) (l : List Itm) : (mailsOf v l).Pairwise (fun a b => a.uid < b.uid) := by
  have := upOf_up (uidK v l) l
  rw [← mails_uids] at this
  exact List.pairwise_map.1 this
/-- A mail that is told was added; it is not gone; its number lies below the next one. -/
theorem mails_told {v : Int} {l : List Itm} {m : Ml} (h : m ∈ mailsOf v l) : m.uid < nextOf v l ∧ (∀ x ∈ l, ¬ (x.2.kind = 5 ∧ x.2.valid = v ∧ x.2.uid = m.uid)) := by
  have hu : m.uid ∈ upOf (uidK v l) l := by rw [← mails_uids]; exact List.mem_map_of_mem h
  obtain ⟨⟨x, hx, a, b, c⟩, hg⟩ := mem_uids.1 hu
  refine ⟨?_, fun y hy => bestR_none hg y hy⟩
  have := (mostFold (nextK v) l 1).2.1 x hx
  have e : nextK v x = x.2.uid + 1 := by
    unfold nextK
    rw [if_pos b, if_neg (by omega), if_pos (.inl a)]
  rw [e] at this
  unfold nextOf mostOf
  omega
theorem add_below {v : Int} {l : List Itm} {x : Itm} (hx : x ∈ l) (a : x.2.kind = 3) (b : x.2.valid = v) : x.2.uid < nextOf v l := by
  have := (mostFold (nextK v) l 1).2.1 x hx
  have e : nextK v x = x.2.uid + 1 := by
    unfold nextK
    rw [if_pos b, if_neg (by omega), if_pos (.inl a)]
  rw [e] at this
  unfold nextOf mostOf
  omega
/-- The boxes that are told: told of, and not dropped; their numbers rise. -/
theorem mem_valids {l : List Itm} {n : Int} : n ∈ upOf (validK l) l ↔ (∃ x ∈ l, x.2.kind = 1 ∧ x.2.valid = n) ∧ bestR 2 n 0 l = none := by
  rw [mem_upOf]
  constructor
  · rintro ⟨x, hx, e⟩
    unfold validK at e
    split at e
    · rename_i h
      cases e
      exact ⟨⟨x, hx, h.1, rfl⟩, h.2⟩
    · cases e
  · rintro ⟨⟨x, hx, a, rfl⟩, h⟩
    refine ⟨x, hx, ?_⟩
    unfold validK
    rw [if_pos ⟨a, h⟩]
theorem boxes_valids (l : List Itm) : (tellAll l).map (·.valid) = upOf (validK l) l := by
  unfold tellAll
  rw [List.map_map]
  exact List.map_id' _
theorem boxes_up (l : List Itm) : (tellAll l).Pairwise (fun a b => a.valid < b.valid) := by
  have := upOf_up (validK l) l
  rw [← boxes_valids] at this
  exact List.pairwise_map.1 this
theorem box_form {l : List Itm} {b : Bx} (h : b ∈ tellAll l) : b = boxK l b.valid := by
  obtain ⟨v, _, rfl⟩ := List.mem_map.1 h
  rfl
theorem box_kept {l : List Itm} {b : Bx} (h : b ∈ tellAll l) (x : Itm) (hx : x ∈ l) (hok : x.2.ok) (hv : x.2.valid = b.valid) : x.2.kind ≠ 2 := by
  intro hk
  have hu : b.valid ∈ upOf (validK l) l := by rw [← boxes_valids]; exact List.mem_map_of_mem h
  refine bestR_none (mem_valids.1 hu).2 x hx ⟨hk, hv, ?_⟩
  have h4 := hok.2.2.2.1
  split at h4 <;> omega

end Go.Proofs.Ytieenkloiicnkaa

/- How items lie in memory. -/
namespace Go.Proofs.Ytieenkloiicnkaa
open Go.RowKit

def itE : Enc Itm where
  ty := 59
  sty := 42
  sz := 9
  bytes := 96
  zero := .agg #[.int .i64 0, .int .i64 0, .int .i64 0, .int .i64 0, .int .i64 0, .int .i64 0, .string ⟨#[]⟩, .string ⟨#[]⟩, .string ⟨#[]⟩]
  f := fun x => [.int .i64 x.1, .int .i64 x.2.kind, .int .i64 x.2.valid, .int .i64 x.2.uid, .int .i64 x.2.next, .int .i64 x.2.flags, .string x.2.user, .string x.2.name, .string x.2.text]
  len := fun _ => rfl
  pos := by decide
  one := fun _ u hu => by simp at hu; rcases hu with rfl | rfl | rfl | rfl | rfl | rfl | rfl | rfl | rfl <;> rfl
  und := Try.underlying42
  info := by kernel_rfl
  zc := rfl
  z0 := (0, Rc.nil)
  zf := rfl

/-- The nine cells of an item. -/
theorem it_cells {w w' : World} {g off : Nat} {l : List Itm} (hc : ∀ j x, l[j]? = some x → ∀ k u, (itE.f x)[k]? = some u → w.cell? ⟨g, off + j * itE.sz + k, none⟩ = some u)
    (hg : g < w.heap.size) (hb : Below w.heap.size w w') (i : Nat) (x : Itm) (hi : l[i]? = some x) :
    w'.cell? ⟨g, off + i * 9, none⟩ = some (.int .i64 x.1) ∧ w'.cell? ⟨g, off + i * 9 + 1, none⟩ = some (.int .i64 x.2.kind) ∧ w'.cell? ⟨g, off + i * 9 + 2, none⟩ = some (.int .i64 x.2.valid) ∧ w'.cell? ⟨g, off + i * 9 + 3, none⟩ = some (.int .i64 x.2.uid) ∧ w'.cell? ⟨g, off + i * 9 + 4, none⟩ = some (.int .i64 x.2.next) ∧
    w'.cell? ⟨g, off + i * 9 + 5, none⟩ = some (.int .i64 x.2.flags) ∧ w'.cell? ⟨g, off + i * 9 + 6, none⟩ = some (.string x.2.user) ∧ w'.cell? ⟨g, off + i * 9 + 7, none⟩ = some (.string x.2.name) ∧ w'.cell? ⟨g, off + i * 9 + 8, none⟩ = some (.string x.2.text) := by
  have h : ∀ k u, (itE.f x)[k]? = some u → w'.cell? ⟨g, off + i * 9 + k, none⟩ = some u := fun k u hu => (hb.cell (p := ⟨g, off + i * 9 + k, none⟩) hg).trans (hc i x hi k u hu)
  exact ⟨h 0 _ rfl, h 1 _ rfl, h 2 _ rfl, h 3 _ rfl, h 4 _ rfl, h 5 _ rfl, h 6 _ rfl, h 7 _ rfl, h 8 _ rfl⟩

end Go.Proofs.Ytieenkloiicnkaa

/- What records tell: the model's choice of a record. -/
namespace Go.Proofs.Ytieenkloiicnkaa
open Go.RowKit

theorem Box.set9 {w : World} {b : Nat} {u0 u1 u2 u3 u4 u5 u6 u7 u8 : Value} {t : TypeId} (h : Box w b #[u0, u1, u2, u3, u4, u5, u6, u7, u8] t) (v0 v1 v2 v3 v4 v5 v6 v7 v8 : Value) : Box ((Go.Proofs.Ytieenkloiicnkaa.set8 w b v0 v1 v2 v3 v4 v5 v6 v7).setCell ⟨b, 8, none⟩ v8) b #[v0, v1, v2, v3, v4, v5, v6, v7, v8] t :=
  have a0 : Box (w.setCell ⟨b, 0, none⟩ v0) b #[v0, u1, u2, u3, u4, u5, u6, u7, u8] t := h.set 0 v0
  have a1 : Box ((w.setCell ⟨b, 0, none⟩ v0).setCell ⟨b, 1, none⟩ v1) b #[v0, v1, u2, u3, u4, u5, u6, u7, u8] t := a0.set 1 v1
  have a2 : Box (((w.setCell ⟨b, 0, none⟩ v0).setCell ⟨b, 1, none⟩ v1).setCell ⟨b, 2, none⟩ v2) b #[v0, v1, v2, u3, u4, u5, u6, u7, u8] t := a1.set 2 v2
  have a3 : Box ((((w.setCell ⟨b, 0, none⟩ v0).setCell ⟨b, 1, none⟩ v1).setCell ⟨b, 2, none⟩ v2).setCell ⟨b, 3, none⟩ v3) b #[v0, v1, v2, v3, u4, u5, u6, u7, u8] t := a2.set 3 v3
  have a4 : Box (((((w.setCell ⟨b, 0, none⟩ v0).setCell ⟨b, 1, none⟩ v1).setCell ⟨b, 2, none⟩ v2).setCell ⟨b, 3, none⟩ v3).setCell ⟨b, 4, none⟩ v4) b #[v0, v1, v2, v3, v4, u5, u6, u7, u8] t := a3.set 4 v4
  have a5 : Box ((((((w.setCell ⟨b, 0, none⟩ v0).setCell ⟨b, 1, none⟩ v1).setCell ⟨b, 2, none⟩ v2).setCell ⟨b, 3, none⟩ v3).setCell ⟨b, 4, none⟩ v4).setCell ⟨b, 5, none⟩ v5) b #[v0, v1, v2, v3, v4, v5, u6, u7, u8] t := a4.set 5 v5
  have a6 : Box (((((((w.setCell ⟨b, 0, none⟩ v0).setCell ⟨b, 1, none⟩ v1).setCell ⟨b, 2, none⟩ v2).setCell ⟨b, 3, none⟩ v3).setCell ⟨b, 4, none⟩ v4).setCell ⟨b, 5, none⟩ v5).setCell ⟨b, 6, none⟩ v6) b #[v0, v1, v2, v3, v4, v5, v6, u7, u8] t := a5.set 6 v6
  have a7 : Box ((((((((w.setCell ⟨b, 0, none⟩ v0).setCell ⟨b, 1, none⟩ v1).setCell ⟨b, 2, none⟩ v2).setCell ⟨b, 3, none⟩ v3).setCell ⟨b, 4, none⟩ v4).setCell ⟨b, 5, none⟩ v5).setCell ⟨b, 6, none⟩ v6).setCell ⟨b, 7, none⟩ v7) b #[v0, v1, v2, v3, v4, v5, v6, v7, u8] t := a6.set 7 v7
  have a8 : Box (((((((((w.setCell ⟨b, 0, none⟩ v0).setCell ⟨b, 1, none⟩ v1).setCell ⟨b, 2, none⟩ v2).setCell ⟨b, 3, none⟩ v3).setCell ⟨b, 4, none⟩ v4).setCell ⟨b, 5, none⟩ v5).setCell ⟨b, 6, none⟩ v6).setCell ⟨b, 7, none⟩ v7).setCell ⟨b, 8, none⟩ v8) b #[v0, v1, v2, v3, v4, v5, v6, v7, v8] t := a7.set 8 v8
  a8

theorem bestO_take {k : Itm → Int} {p : Itm → Bool} {l : List Itm} {i : Nat} {x : Itm} (h : l[i]? = some x) : bestO k p (l.take (i + 1)) = bestStep k p (bestO k p (l.take i)) x := by
  unfold bestO
  rw [List.take_add_one, h, List.foldl_append]
  rfl

/-- What the choice hands back. -/
def bestT (o : Option Itm) : Value := match o with
  | some x => .tuple #[itV x.1 x.2, .bool true]
  | none => .tuple #[itV 0 Rc.nil, .bool false]
/-- What stands in its variable. -/
def bestX (o : Option Itm) : Itm := o.getD (0, Rc.nil)
theorem bestT_eq (o : Option Itm) : bestT o = .tuple #[itV (bestX o).1 (bestX o).2, .bool o.isSome] := by cases o <;> rfl
def bestP (kind valid uid : Int) (x : Itm) : Bool := decide (x.2.kind = kind ∧ x.2.valid = valid ∧ x.2.uid = uid)
theorem bestStep_no {k : Itm → Int} {p : Itm → Bool} {o : Option Itm} {x : Itm} (h : p x = false) : bestStep k p o x = o := by
  unfold bestStep; rw [h]; rfl
theorem bestStep_yes {p : Itm → Bool} {o : Option Itm} {x : Itm} (h : p x = true) (h2 : o = none ∨ (bestX o).1 < x.1) : bestStep (fun _ => 0) p o x = some x := by
  unfold bestStep; rw [if_pos h]
  cases o with
  | none => rfl
  | some y =>
    have : y.1 < x.1 := by rcases h2 with h2 | h2; cases h2; exact h2
    exact if_pos (decide_eq_true (.inr ⟨rfl, this⟩))
theorem bestStep_old {p : Itm → Bool} {o : Option Itm} {x : Itm} (h : p x = true) (h1 : o.isSome = true) (h2 : ¬ (bestX o).1 < x.1) : bestStep (fun _ => 0) p o x = o := by
  unfold bestStep; rw [if_pos h]
  cases o with
  | none => cases h1
  | some y => exact if_neg (fun c => by have := of_decide_eq_true c; dsimp only at this; have h2 : ¬ y.1 < x.1 := h2; omega)

/-- The choice at work: its answer's variable g0, its own g1. -/
structure BsI (w : World) (g0 g1 : Nat) (x : Itm) (X : World) : Prop where
  res : Box X g0 #[.int .i64 0, .int .i64 0, .int .i64 0, .int .i64 0, .int .i64 0, .int .i64 0, .string ⟨#[]⟩, .string ⟨#[]⟩, .string ⟨#[]⟩] 59
  out : Box X g1 #[.int .i64 x.1, .int .i64 x.2.kind, .int .i64 x.2.valid, .int .i64 x.2.uid, .int .i64 x.2.next, .int .i64 x.2.flags, .string x.2.user, .string x.2.name, .string x.2.text] 59
  bel : Below w.heap.size w X
  l0 : w.heap.size ≤ g0
  l1 : w.heap.size ≤ g1
  n01 : g0 ≠ g1
theorem BsI.later {w X Y : World} {g0 g1 : Nat} {x : Itm} (h : BsI w g0 g1 x X) (hb : Below X.heap.size X Y) : BsI w g0 g1 x Y := ⟨h.res.later hb, h.out.later hb, h.bel.trans (hb.mono h.bel.size), h.l0, h.l1, h.n01⟩
theorem BsI.put {w X : World} {g0 g1 : Nat} {x : Itm} (h : BsI w g0 g1 x X) (y : Itm) : BsI w g0 g1 y ((set8 X g1 (.int .i64 y.1) (.int .i64 y.2.kind) (.int .i64 y.2.valid) (.int .i64 y.2.uid) (.int .i64 y.2.next) (.int .i64 y.2.flags) (.string y.2.user) (.string y.2.name)).setCell ⟨g1, 8, none⟩ (.string y.2.text)) :=
  ⟨h.res.but ((grown_set8 X g1 _ _ _ _ _ _ _ _).trans (stored_grown _ _ _ _)) h.n01, h.out.set9 _ _ _ _ _ _ _ _ _, below_set9 h.bel h.l1 _ _ _ _ _ _ _ _ _, h.l0, h.l1, h.n01⟩


end Go.Proofs.Ytieenkloiicnkaa

/- Right items, plainly: as they are gone through. -/
namespace Go.Proofs.Ytieenkloiicnkaa

theorem upOf_take {f : Itm → Option Int} {l : List Itm} {i : Nat} {x : Itm} (h : l[i]? = some x) : upOf f (l.take (i + 1)) = match f x with | some n => insI (upOf f (l.take i)) n | none => upOf f (l.take i) := by
  unfold upOf
  rw [List.take_add_one, h, List.foldl_append]
  rfl
theorem insI_len (l : List Int) (x : Int) : (insI l x).length ≤ l.length + 1 := by
  unfold insI
  rw [List.length_append, List.length_cons]
  have h : ∀ l : List Int, (l.filter (fun y => decide (y < x))).length + (l.filter (fun y => decide (x < y))).length ≤ l.length := by
    intro l
    induction l with
    | nil => simp
    | cons y l ih =>
      simp only [List.filter_cons, List.length_cons]
      by_cases h1 : y < x
      · have h2 : ¬ x < y := by omega
        simp [h1, h2]; omega
      · by_cases h2 : x < y
        · simp [h1, h2]; omega
        · simp [h1, h2]; omega
  have := h l
  omega
theorem upOf_len (f : Itm → Option Int) (l : List Itm) : ∀ i, (upOf f (l.take i)).length ≤ i
  | 0 => by simp [upOf]
  | i + 1 => by
    have ih := upOf_len f l i
    cases h : l[i]? with
    | none =>
      have h2 : l.take (i + 1) = l.take i := by rw [List.take_add_one, h]; simp
      rw [h2]; omega
    | some x =>
      rw [upOf_take h]
      split
      · have := insI_len (upOf f (l.take i)) ‹Int›; omega
      · omega

/-- An item that is right by itself. -/
def itOk (x : Itm) : Prop := (1 ≤ x.1 ∧ x.1 ≤ 1000000000) ∧ x.2.ok
/-- The first i are right, and no two of them part. -/
def ItG (l : List Itm) (i : Nat) : Prop := (∀ (j : Nat) (x : Itm), l[j]? = some x → j < i → itOk x) ∧ ∀ (j k : Nat) (x y : Itm), l[j]? = some x → l[k]? = some y → j < k → k < i → x.1 = y.1 → x = y
noncomputable instance decItemsOk (l : List Itm) : Decidable (itemsOk l) := Classical.propDecidable _

theorem ItG.zero (l : List Itm) : ItG l 0 := ⟨fun _ _ _ h => by omega, fun _ _ _ _ _ _ _ h => by omega⟩
theorem ItG.next {l : List Itm} {i : Nat} {x : Itm} (h : ItG l i) (hx : l[i]? = some x) (hok : itOk x) (hd : ∀ (j : Nat) (y : Itm), l[j]? = some y → j < i → y.1 = x.1 → y = x) : ItG l (i + 1) := by
  refine ⟨fun j y hy hj => ?_, fun j k y z hy hz hjk hk e => ?_⟩
  · by_cases e : j = i
    · subst e; rw [hx] at hy; cases hy; exact hok
    · exact h.1 j y hy (by omega)
  · by_cases e2 : k = i
    · subst e2; rw [hx] at hz; cases hz; exact hd j y hy hjk e
    · exact h.2 j k y z hy hz hjk (by omega) e
theorem ItG.done {l : List Itm} (h : ItG l l.length) : decide (itemsOk l) = decide (l.length ≤ 200) := by
  apply decide_eq_decide.2
  constructor
  · exact fun c => c.2.2
  · intro hl
    refine ⟨fun x hx => ?_, fun x hx y hy e => ?_, hl⟩
    · obtain ⟨j, hj, rfl⟩ := List.getElem_of_mem hx
      exact h.1 j _ (List.getElem?_eq_getElem hj) hj
    · obtain ⟨j, hj, rfl⟩ := List.getElem_of_mem hx
      obtain ⟨k, hk, rfl⟩ := List.getElem_of_mem hy
      rcases Nat.lt_trichotomy j k with c | c | c
      · exact h.2 j k _ _ (List.getElem?_eq_getElem hj) (List.getElem?_eq_getElem hk) c hk e
      · subst c; rfl
      · exact (h.2 k j _ _ (List.getElem?_eq_getElem hk) (List.getElem?_eq_getElem hj) c hj e.symm).symm
theorem items_bad {l : List Itm} {i : Nat} {x : Itm} (hx : l[i]? = some x) (h : ¬ itOk x) : decide (itemsOk l) = false :=
  decide_eq_false fun c => h (c.1 x (List.mem_of_getElem? hx))
theorem items_part {l : List Itm} {j i : Nat} {x y : Itm} (hx : l[j]? = some x) (hy : l[i]? = some y) (e : x.1 = y.1) (h : x ≠ y) : decide (itemsOk l) = false :=
  decide_eq_false fun c => h (c.2.1 x (List.mem_of_getElem? hx) y (List.mem_of_getElem? hy) e)

end Go.Proofs.Ytieenkloiicnkaa

/- What records tell: the model's ItemsOk. -/
namespace Go.Proofs.Ytieenkloiicnkaa
open Go.RowKit

theorem ba_same (a b : ByteArray) : a.toList = b.toList ↔ a = b := by
  have h := ba_beq a b
  constructor
  · intro e
    rw [beq_iff_eq.2 e] at h
    exact of_decide_eq_true h.symm
  · intro e; rw [e]

/-- A list of items that can be read, as a loop reads it. -/
def ItRow (w : World) (ad : Option Addr) (l : List Itm) : Prop := ∀ X, Below w.heap.size w X → ∀ i x, l[i]? = some x → ∃ g off, ad = some ⟨g, off, none⟩ ∧ X.cell? ⟨g, off + i * 9, none⟩ = some (.int .i64 x.1) ∧ X.cell? ⟨g, off + i * 9 + 1, none⟩ = some (.int .i64 x.2.kind) ∧ X.cell? ⟨g, off + i * 9 + 2, none⟩ = some (.int .i64 x.2.valid) ∧ X.cell? ⟨g, off + i * 9 + 3, none⟩ = some (.int .i64 x.2.uid) ∧ X.cell? ⟨g, off + i * 9 + 4, none⟩ = some (.int .i64 x.2.next) ∧ X.cell? ⟨g, off + i * 9 + 5, none⟩ = some (.int .i64 x.2.flags) ∧ X.cell? ⟨g, off + i * 9 + 6, none⟩ = some (.string x.2.user) ∧ X.cell? ⟨g, off + i * 9 + 7, none⟩ = some (.string x.2.name) ∧ X.cell? ⟨g, off + i * 9 + 8, none⟩ = some (.string x.2.text)
theorem Rows'.items {w : World} {v : Value} {l : List Itm} (h : Rows' itE w v l) : ∃ (ad : Option Addr) (cap : Nat), v = .slice ad l.length cap ∧ ItRow w ad l := by
  rcases h.ways with ⟨rfl, a, c, rfl⟩ | ⟨hne, g, off, c, rfl, hc, hg, hcl⟩
  · exact ⟨a, c, rfl, fun X _ i x hi => by cases hi⟩
  · exact ⟨_, c, rfl, fun X hb i x hi => ⟨g, off, rfl, it_cells hcl hg hb i x hi⟩⟩


end Go.Proofs.Ytieenkloiicnkaa

/- Records and items: the helpers of the exact laws. -/
namespace Go.Proofs.Ytieenkloiicnkaa
open Go.RowKit

set_option maxRecDepth 100000 in
set_option maxHeartbeats 1000000 in
theorem szRec_any (r : Rc) (left : Int) (w : World) (s1 : r.user.size ≤ 9223372036854775807) (s2 : r.name.size ≤ 9223372036854775807) (s3 : r.text.size ≤ 9223372036854775807) (h0 : 0 ≤ left) (h1 : left ≤ 1099511627776) :
    Calls Try.prog 37 #[r.v, .int .i64 left] w fun e w' => (∃ x : Int, e = .returned (.int .i64 x) ∧ (x < 0 ∨ (r.user.size : Int) + r.name.size + r.text.size ≤ left) ∧ -1 ≤ x ∧ x ≤ left) ∧ Below w.heap.size w w' := by
  have b0 : Below w.heap.size w (w.alloc (.cells #[.int .i64 r.kind, .int .i64 r.valid, .int .i64 r.uid, .int .i64 r.next, .int .i64 r.flags, .string r.user, .string r.name, .string r.text] 75)) := belNew _ _
  unfold Rc.v
  by_cases hA : (r.user.size : Int) ≤ left
  · by_cases hB : (r.name.size : Int) ≤ left - r.user.size
    · by_cases hC : (r.text.size : Int) ≤ left - r.user.size - r.name.size
      · go_enter Try.func37, Try.ntmps37
        go_wp2
        go_ret
        exact ⟨⟨left - r.user.size - r.name.size - r.text.size, rfl, .inr (by omega), by omega, by omega⟩, b0⟩
      · go_enter Try.func37, Try.ntmps37
        go_wp2
        go_ret
        exact ⟨⟨-1, rfl, .inl (by omega), by omega, by omega⟩, b0⟩
    · go_enter Try.func37, Try.ntmps37
      go_wp2
      go_ret
      exact ⟨⟨-1, rfl, .inl (by omega), by omega, by omega⟩, b0⟩
  · go_enter Try.func37, Try.ntmps37
    go_wp2
    go_ret
    exact ⟨⟨-1, rfl, .inl (by omega), by omega, by omega⟩, b0⟩

set_option maxRecDepth 100000 in
set_option maxHeartbeats 1000000 in
theorem toRec_any (r : Rc) (w : World) : Calls Try.prog 38 #[r.v] w fun e w' => e = .returned r.v ∧ Below w.heap.size w w' := by
  unfold Rc.v
  go_enter Try.func38, Try.ntmps38
  go_wp2
  refine bodyPost_ret (v := .agg #[.int .i64 r.kind, .int .i64 r.valid, .int .i64 r.uid, .int .i64 r.next, .int .i64 r.flags, .string r.user, .string r.name, .string r.text]) (by simp [results, Try.results38, go_sem]) rfl ?_
  exact ⟨rfl, (((Below.refl _ _).alloc (Nat.le_refl _) _).alloc (by simp) _).alloc (by simp; omega) _⟩

set_option maxRecDepth 100000 in
set_option maxHeartbeats 1000000 in
theorem eqRec_same (r : Rc) (w : World) : Calls Try.prog 39 #[r.v, r.v] w fun e w' => e = .returned (.bool true) ∧ Below w.heap.size w w' := by
  unfold Rc.v
  go_enter Try.func39, Try.ntmps39
  go_wp2
  go_ret
  exact ⟨rfl, ((Below.refl _ _).alloc (Nat.le_refl _) _).alloc (by simp) _⟩

set_option maxRecDepth 100000 in
set_option maxHeartbeats 1000000 in
theorem szItem_any (seq : Int) (r : Rc) (left : Int) (w : World) (s1 : r.user.size ≤ 9223372036854775807) (s2 : r.name.size ≤ 9223372036854775807) (s3 : r.text.size ≤ 9223372036854775807) (h0 : 0 ≤ left) (h1 : left ≤ 1099511627776) :
    Calls Try.prog 34 #[itV seq r, .int .i64 left] w fun e w' => (∃ x : Int, e = .returned (.int .i64 x) ∧ (x < 0 ∨ (r.user.size : Int) + r.name.size + r.text.size ≤ left) ∧ -1 ≤ x ∧ x ≤ left) ∧ Below w.heap.size w w' := by
  have b0 : Below w.heap.size w (w.alloc (.cells #[.int .i64 seq, .int .i64 r.kind, .int .i64 r.valid, .int .i64 r.uid, .int .i64 r.next, .int .i64 r.flags, .string r.user, .string r.name, .string r.text] 77)) := belNew _ _
  have HS := Lib.hid (fun wx => szRec_any r left wx s1 s2 s3 h0 h1)
  unfold Rc.v at HS
  unfold itV
  go_enter Try.func34, Try.ntmps34
  go_wp2_with fail
  generalize w.alloc (.cells #[.int .i64 seq, .int .i64 r.kind, .int .i64 r.valid, .int .i64 r.uid, .int .i64 r.next, .int .i64 r.flags, .string r.user, .string r.name, .string r.text] 77) = W at b0 ⊢
  refine (HS.out _).mono ?_
  rintro e w1 ⟨⟨x, rfl, hx, hx1, hx2⟩, k1⟩
  have BB := Lib.hid (b0.trans (k1.mono b0.size))
  clear k1 b0 HS
  by_cases hn : x < 0
  · have HX := Lib.hid hx
    clear hx
    go_wp2
    go_ret
    exact ⟨⟨-1, rfl, .inl (by omega), by omega, by omega⟩, BB.out⟩
  · have HX := Lib.hid hx
    clear hx
    go_wp2
    go_ret
    exact ⟨⟨x, rfl, HX.out, hx1, hx2⟩, BB.out⟩

set_option maxRecDepth 100000 in
set_option maxHeartbeats 2000000 in
theorem toItem_any (seq : Int) (r : Rc) (w : World) : Calls Try.prog 35 #[itV seq r] w fun e w' => e = .returned (itV seq r) ∧ Below w.heap.size w w' := by
  have HT := Lib.hid (fun wx => toRec_any r wx)
  have hA := Box.new w #[.int .i64 seq, .int .i64 r.kind, .int .i64 r.valid, .int .i64 r.uid, .int .i64 r.next, .int .i64 r.flags, .string r.user, .string r.name, .string r.text] 77
  have bA := belNew w (.cells #[.int .i64 seq, .int .i64 r.kind, .int .i64 r.valid, .int .i64 r.uid, .int .i64 r.next, .int .i64 r.flags, .string r.user, .string r.name, .string r.text] 77)
  have hB := Box.new (w.alloc (.cells #[.int .i64 seq, .int .i64 r.kind, .int .i64 r.valid, .int .i64 r.uid, .int .i64 r.next, .int .i64 r.flags, .string r.user, .string r.name, .string r.text] 77)) #[.int .i64 0, .int .i64 0, .int .i64 0, .int .i64 0, .int .i64 0, .int .i64 0, .string ⟨#[]⟩, .string ⟨#[]⟩, .string ⟨#[]⟩] 59
  have bB := bA.trans ((belNew (w.alloc (.cells #[.int .i64 seq, .int .i64 r.kind, .int .i64 r.valid, .int .i64 r.uid, .int .i64 r.next, .int .i64 r.flags, .string r.user, .string r.name, .string r.text] 77)) (.cells #[.int .i64 0, .int .i64 0, .int .i64 0, .int .i64 0, .int .i64 0, .int .i64 0, .string ⟨#[]⟩, .string ⟨#[]⟩, .string ⟨#[]⟩] 59)).mono bA.size)
  have hC := Box.new ((w.alloc (.cells #[.int .i64 seq, .int .i64 r.kind, .int .i64 r.valid, .int .i64 r.uid, .int .i64 r.next, .int .i64 r.flags, .string r.user, .string r.name, .string r.text] 77)).alloc (.cells #[.int .i64 0, .int .i64 0, .int .i64 0, .int .i64 0, .int .i64 0, .int .i64 0, .string ⟨#[]⟩, .string ⟨#[]⟩, .string ⟨#[]⟩] 59)) #[.int .i64 seq, .int .i64 0, .int .i64 0, .int .i64 0, .int .i64 0, .int .i64 0, .string ⟨#[]⟩, .string ⟨#[]⟩, .string ⟨#[]⟩] 59
  have bC := bB.trans ((belNew ((w.alloc (.cells #[.int .i64 seq, .int .i64 r.kind, .int .i64 r.valid, .int .i64 r.uid, .int .i64 r.next, .int .i64 r.flags, .string r.user, .string r.name, .string r.text] 77)).alloc (.cells #[.int .i64 0, .int .i64 0, .int .i64 0, .int .i64 0, .int .i64 0, .int .i64 0, .string ⟨#[]⟩, .string ⟨#[]⟩, .string ⟨#[]⟩] 59)) (.cells #[.int .i64 seq, .int .i64 0, .int .i64 0, .int .i64 0, .int .i64 0, .int .i64 0, .string ⟨#[]⟩, .string ⟨#[]⟩, .string ⟨#[]⟩] 59)).mono bB.size)
  have hB' := hB.later (belNew _ (.cells #[.int .i64 seq, .int .i64 0, .int .i64 0, .int .i64 0, .int .i64 0, .int .i64 0, .string ⟨#[]⟩, .string ⟨#[]⟩, .string ⟨#[]⟩] 59))
  have e1 : (w.alloc (.cells #[.int .i64 seq, .int .i64 r.kind, .int .i64 r.valid, .int .i64 r.uid, .int .i64 r.next, .int .i64 r.flags, .string r.user, .string r.name, .string r.text] 77)).heap.size = w.heap.size + 1 := by simp
  have e2 : ((w.alloc (.cells #[.int .i64 seq, .int .i64 r.kind, .int .i64 r.valid, .int .i64 r.uid, .int .i64 r.next, .int .i64 r.flags, .string r.user, .string r.name, .string r.text] 77)).alloc (.cells #[.int .i64 0, .int .i64 0, .int .i64 0, .int .i64 0, .int .i64 0, .int .i64 0, .string ⟨#[]⟩, .string ⟨#[]⟩, .string ⟨#[]⟩] 59)).heap.size = w.heap.size + 1 + 1 := by simp
  rw [e1] at hB'
  rw [e2] at hC
  clear hA bA hB bB e1 e2
  unfold Rc.v at HT
  unfold itV
  go_enter Try.func35, Try.ntmps35
  go_wp2_with fail
  generalize ((w.alloc (.cells #[.int .i64 seq, .int .i64 r.kind, .int .i64 r.valid, .int .i64 r.uid, .int .i64 r.next, .int .i64 r.flags, .string r.user, .string r.name, .string r.text] 77)).alloc (.cells #[.int .i64 0, .int .i64 0, .int .i64 0, .int .i64 0, .int .i64 0, .int .i64 0, .string ⟨#[]⟩, .string ⟨#[]⟩, .string ⟨#[]⟩] 59)).alloc (.cells #[.int .i64 seq, .int .i64 0, .int .i64 0, .int .i64 0, .int .i64 0, .int .i64 0, .string ⟨#[]⟩, .string ⟨#[]⟩, .string ⟨#[]⟩] 59) = W at hB' hC bC ⊢
  refine (HT.out _).mono ?_
  rintro e w1 ⟨rfl, k1⟩
  obtain ⟨u0, u1, u2, u3, u4, u5, u6, u7, u8, v0, v1, v2, v3, v4, v5, v6, v7, v8⟩ := (hB'.later k1).nine
  obtain ⟨x0, x1, x2, x3, x4, x5, x6, x7, x8, y0, y1, y2, y3, y4, y5, y6, y7, y8⟩ := (hC.later k1).nine
  have BB := Lib.hid (bC.trans (k1.mono bC.size))
  clear hB' hC bC k1 HT
  go_wp2
  refine bodyPost_ret (v := .agg #[.int .i64 seq, .int .i64 r.kind, .int .i64 r.valid, .int .i64 r.uid, .int .i64 r.next, .int .i64 r.flags, .string r.user, .string r.name, .string r.text]) (by simp [results, Try.results35, go_sem, u0, u1, u2, u3, u4, u5, u6, u7, u8]) rfl ?_
  refine ⟨rfl, ?_⟩
  have l1 : w.heap.size ≤ w.heap.size + 1 := by omega
  have l2 : w.heap.size ≤ w.heap.size + 1 + 1 := by omega
  repeat' first | (with_reducible exact BB.out) | (with_reducible refine Below.setCell ?_ (by first | exact l1 | exact l2) _)

set_option maxRecDepth 100000 in
set_option maxHeartbeats 1000000 in
theorem eqItem_same (seq : Int) (r : Rc) (w : World) : Calls Try.prog 36 #[itV seq r, itV seq r] w fun e w' => e = .returned (.bool true) ∧ Below w.heap.size w w' := by
  have HT := Lib.hid (fun wx => eqRec_same r wx)
  have bA := belNew w (.cells #[.int .i64 seq, .int .i64 r.kind, .int .i64 r.valid, .int .i64 r.uid, .int .i64 r.next, .int .i64 r.flags, .string r.user, .string r.name, .string r.text] 59)
  have bB := bA.trans ((belNew (w.alloc (.cells #[.int .i64 seq, .int .i64 r.kind, .int .i64 r.valid, .int .i64 r.uid, .int .i64 r.next, .int .i64 r.flags, .string r.user, .string r.name, .string r.text] 59)) (.cells #[.int .i64 seq, .int .i64 r.kind, .int .i64 r.valid, .int .i64 r.uid, .int .i64 r.next, .int .i64 r.flags, .string r.user, .string r.name, .string r.text] 59)).mono bA.size)
  clear bA
  unfold Rc.v at HT
  unfold itV
  go_enter Try.func36, Try.ntmps36
  go_wp2_with fail
  generalize (w.alloc (.cells #[.int .i64 seq, .int .i64 r.kind, .int .i64 r.valid, .int .i64 r.uid, .int .i64 r.next, .int .i64 r.flags, .string r.user, .string r.name, .string r.text] 59)).alloc (.cells #[.int .i64 seq, .int .i64 r.kind, .int .i64 r.valid, .int .i64 r.uid, .int .i64 r.next, .int .i64 r.flags, .string r.user, .string r.name, .string r.text] 59) = W at bB ⊢
  refine (HT.out _).mono ?_
  rintro e w1 ⟨rfl, k1⟩
  have BB := Lib.hid (bB.trans (k1.mono bB.size))
  clear bB k1 HT
  go_wp2
  go_ret
  exact ⟨rfl, BB.out⟩

end Go.Proofs.Ytieenkloiicnkaa
