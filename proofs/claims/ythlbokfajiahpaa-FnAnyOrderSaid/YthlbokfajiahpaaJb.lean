/- Texts of our own, joined. -/
import Derived.Test.YthlbokfajiahpaaJa
import Derived.Test.YthlbokfajiahpaaRows
import Derived.WalkKit
import Derived.Maps.AppendAt
import Derived.Laws.OwnMore
import Derived.Laws.BytesArg
import Derived.Laws.Bits128
/- What records tell, plainly: whatever the order in which they lie, and however often one lies there. -/
namespace Go.Proofs.Ythlbokfajiahpaa

/-- An item: its number and its record. -/
abbrev Itm := Int × Rc

/-- x stands ahead of y: by the key, and of two with one key by the number. -/
def aheadB (k : Itm → Int) (x y : Itm) : Bool := decide (k y < k x ∨ (k x = k y ∧ y.1 < x.1))

/-- One step of the choice. -/
def bestStep (k : Itm → Int) (p : Itm → Bool) (o : Option Itm) (x : Itm) : Option Itm :=
  if p x = true then (match o with
    | none => some x
    | some y => if aheadB k x y = true then some x else some y) else o
/-- The first of those that p takes. -/
def bestO (k : Itm → Int) (p : Itm → Bool) (l : List Itm) : Option Itm := l.foldl (bestStep k p) none

/-- What the choice has seen. -/
def BestI (k : Itm → Int) (p : Itm → Bool) (l : List Itm) (o : Option Itm) : Prop :=
  match o with
  | none => ∀ y ∈ l, p y = false
  | some x => x ∈ l ∧ p x = true ∧ ∀ y ∈ l, p y = true → k y < k x ∨ (k y = k x ∧ y.1 ≤ x.1)

theorem bestStep_I {k : Itm → Int} {p : Itm → Bool} {l : List Itm} {o : Option Itm} (h : BestI k p l o) (x : Itm) : BestI k p (l ++ [x]) (bestStep k p o x) := by
  unfold bestStep
  by_cases hp : p x = true
  · rw [if_pos hp]
    cases o with
    | none =>
      refine ⟨by simp, hp, fun y hy hpy => ?_⟩
      rcases List.mem_append.1 hy with hy | hy
      · rw [h y hy] at hpy; cases hpy
      · rw [List.mem_singleton.1 hy]; exact .inr ⟨rfl, Int.le_refl _⟩
    | some z =>
      obtain ⟨h1, h2, h3⟩ := h
      dsimp only
      by_cases ha : aheadB k x z = true
      · rw [if_pos ha]
        have ha := of_decide_eq_true ha
        refine ⟨by simp, hp, fun y hy hpy => ?_⟩
        rcases List.mem_append.1 hy with hy | hy
        · have := h3 y hy hpy; omega
        · rw [List.mem_singleton.1 hy]; exact .inr ⟨rfl, Int.le_refl _⟩
      · rw [if_neg ha]
        have ha : ¬ (k z < k x ∨ (k x = k z ∧ z.1 < x.1)) := fun c => ha (decide_eq_true c)
        refine ⟨List.mem_append_left _ h1, h2, fun y hy hpy => ?_⟩
        rcases List.mem_append.1 hy with hy | hy
        · exact h3 y hy hpy
        · rw [List.mem_singleton.1 hy]; omega
  · rw [if_neg hp]
    have hp : p x = false := by simpa using hp
    cases o with
    | none =>
      intro y hy
      rcases List.mem_append.1 hy with hy | hy
      · exact h y hy
      · rw [List.mem_singleton.1 hy]; exact hp
    | some z =>
      obtain ⟨h1, h2, h3⟩ := h
      refine ⟨List.mem_append_left _ h1, h2, fun y hy hpy => ?_⟩
      rcases List.mem_append.1 hy with hy | hy
      · exact h3 y hy hpy
      · rw [List.mem_singleton.1 hy, hp] at hpy; cases hpy

theorem bestFold_I {k : Itm → Int} {p : Itm → Bool} : ∀ (m l : List Itm) (o : Option Itm), BestI k p l o → BestI k p (l ++ m) (m.foldl (bestStep k p) o)
  | [], l, o, h => by rw [List.append_nil]; exact h
  | x :: m, l, o, h => by
    have := bestFold_I m (l ++ [x]) _ (bestStep_I h x)
    rw [List.append_assoc] at this
    exact this

theorem bestO_I (k : Itm → Int) (p : Itm → Bool) (l : List Itm) : BestI k p l (bestO k p l) := by
  have := bestFold_I (k := k) (p := p) l [] none (fun y hy => by cases hy)
  exact this

/-- No number lies twice with two records. -/
def Uniq (l : List Itm) : Prop := ∀ x ∈ l, ∀ y ∈ l, x.1 = y.1 → x = y

theorem BestI.same {k : Itm → Int} {p : Itm → Bool} {l m : List Itm} {o o' : Option Itm} (hu : Uniq l) (hm : ∀ x, x ∈ l ↔ x ∈ m) (h : BestI k p l o) (h' : BestI k p m o') : o = o' := by
  cases o with
  | none =>
    cases o' with
    | none => rfl
    | some y => have := h y ((hm y).2 h'.1); rw [h'.2.1] at this; cases this
  | some x =>
    cases o' with
    | none => have := h' x ((hm x).1 h.1); rw [h.2.1] at this; cases this
    | some y =>
      have a := h.2.2 y ((hm y).2 h'.1) h'.2.1
      have b := h'.2.2 x ((hm x).1 h.1) h.2.1
      rw [hu x h.1 y ((hm y).2 h'.1) (by omega)]

/-- The choice hangs on what lies there, not on where. -/
theorem bestO_same {k : Itm → Int} {p : Itm → Bool} {l m : List Itm} (hu : Uniq l) (hm : ∀ x, x ∈ l ↔ x ∈ m) : bestO k p l = bestO k p m :=
  (bestO_I k p l).same hu hm (bestO_I k p m)

/-- A number put into its place. -/
def insI (l : List Int) (x : Int) : List Int := l.filter (fun y => decide (y < x)) ++ (x :: l.filter (fun y => decide (x < y)))
theorem mem_insI {l : List Int} {x y : Int} : y ∈ insI l x ↔ y = x ∨ y ∈ l := by
  unfold insI
  simp only [List.mem_append, List.mem_cons, List.mem_filter, decide_eq_true_eq]
  constructor
  · rintro (⟨h, _⟩ | h | ⟨h, _⟩)
    · exact .inr h
    · exact .inl h
    · exact .inr h
  · rintro (h | h)
    · exact .inr (.inl h)
    · by_cases h1 : y < x
      · exact .inl ⟨h, h1⟩
      · by_cases h2 : x < y
        · exact .inr (.inr ⟨h, h2⟩)
        · exact .inr (.inl (by omega))
theorem insI_up {l : List Int} {x : Int} (h : l.Pairwise (· < ·)) : (insI l x).Pairwise (· < ·) := by
  unfold insI
  rw [List.pairwise_append]
  refine ⟨h.filter _, ?_, ?_⟩
  · rw [List.pairwise_cons]
    exact ⟨fun y hy => by simpa using (List.mem_filter.1 hy).2, h.filter _⟩
  · intro a ha b hb
    have ha := (List.mem_filter.1 ha).2
    simp only [decide_eq_true_eq] at ha
    rcases List.mem_cons.1 hb with rfl | hb
    · exact ha
    · have hb := (List.mem_filter.1 hb).2
      simp only [decide_eq_true_eq] at hb
      omega

/-- Two rising rows of the same numbers are one. -/
theorem up_same : ∀ {l m : List Int}, l.Pairwise (· < ·) → m.Pairwise (· < ·) → (∀ x, x ∈ l ↔ x ∈ m) → l = m
  | [], [], _, _, _ => rfl
  | [], y :: m, _, _, h => by have := (h y).2 (by simp); cases this
  | x :: l, [], _, _, h => by have := (h x).1 (by simp); cases this
  | x :: l, y :: m, hl, hm, h => by
    rw [List.pairwise_cons] at hl hm
    have e : x = y := by
      rcases List.mem_cons.1 ((h x).1 (by simp)) with e | hx
      · exact e
      · rcases List.mem_cons.1 ((h y).2 (by simp)) with e | hy
        · exact e.symm
        · have := hl.1 y hy; have := hm.1 x hx; omega
    subst e
    rw [up_same hl.2 hm.2 (fun z => ?_)]
    constructor
    · intro hz
      rcases List.mem_cons.1 ((h z).1 (List.mem_cons_of_mem _ hz)) with e | hz'
      · have := hl.1 z hz; omega
      · exact hz'
    · intro hz
      rcases List.mem_cons.1 ((h z).2 (List.mem_cons_of_mem _ hz)) with e | hz'
      · have := hm.1 z hz; omega
      · exact hz'

/-- The numbers that f takes out of the items, rising. -/
def upOf (f : Itm → Option Int) (l : List Itm) : List Int := l.foldl (fun o x => match f x with | some n => insI o n | none => o) []
theorem upFold (f : Itm → Option Int) : ∀ (l : List Itm) (o : List Int), o.Pairwise (· < ·) →
    (l.foldl (fun o x => match f x with | some n => insI o n | none => o) o).Pairwise (· < ·) ∧
    ∀ n, n ∈ l.foldl (fun o x => match f x with | some n => insI o n | none => o) o ↔ n ∈ o ∨ ∃ x ∈ l, f x = some n
  | [], o, h => ⟨h, fun n => by simp⟩
  | x :: l, o, h => by
    rw [List.foldl_cons]
    cases hf : f x with
    | none =>
      obtain ⟨a, b⟩ := upFold f l o h
      refine ⟨a, fun n => ?_⟩
      rw [b n]
      constructor
      · rintro (h | ⟨y, hy, e⟩)
        · exact .inl h
        · exact .inr ⟨y, List.mem_cons_of_mem _ hy, e⟩
      · rintro (h | ⟨y, hy, e⟩)
        · exact .inl h
        · rcases List.mem_cons.1 hy with rfl | hy
          · rw [hf] at e; cases e
          · exact .inr ⟨y, hy, e⟩
    | some k =>
      obtain ⟨a, b⟩ := upFold f l (insI o k) (insI_up h)
      refine ⟨a, fun n => ?_⟩
      rw [b n, mem_insI]
      constructor
      · rintro ((rfl | h) | ⟨y, hy, e⟩)
        · exact .inr ⟨x, by simp, hf⟩
        · exact .inl h
        · exact .inr ⟨y, List.mem_cons_of_mem _ hy, e⟩
      · rintro (h | ⟨y, hy, e⟩)
        · exact .inl (.inr h)
        · rcases List.mem_cons.1 hy with rfl | hy
          · rw [hf] at e; cases e; exact .inl (.inl rfl)
          · exact .inr ⟨y, hy, e⟩
theorem upOf_up (f : Itm → Option Int) (l : List Itm) : (upOf f l).Pairwise (· < ·) := (upFold f l [] List.Pairwise.nil).1
theorem mem_upOf {f : Itm → Option Int} {l : List Itm} {n : Int} : n ∈ upOf f l ↔ ∃ x ∈ l, f x = some n := by
  have := (upFold f l [] List.Pairwise.nil).2 n
  rw [upOf, this]; simp
theorem upOf_same {f g : Itm → Option Int} {l m : List Itm} (hm : ∀ x, x ∈ l ↔ x ∈ m) (hf : ∀ x ∈ l, f x = g x) : upOf f l = upOf g m :=
  up_same (upOf_up f l) (upOf_up g m) (fun n => by
    rw [mem_upOf, mem_upOf]
    constructor
    · rintro ⟨x, hx, e⟩; exact ⟨x, (hm x).1 hx, by rw [← hf x hx]; exact e⟩
    · rintro ⟨x, hx, e⟩; exact ⟨x, (hm x).2 hx, by rw [hf x ((hm x).2 hx)]; exact e⟩)

/-- The greatest of what f takes out, and of b. -/
def mostOf (b : Int) (f : Itm → Int) (l : List Itm) : Int := l.foldl (fun n x => if n < f x then f x else n) b
theorem mostFold (f : Itm → Int) : ∀ (l : List Itm) (b : Int), b ≤ l.foldl (fun n x => if n < f x then f x else n) b ∧ (∀ x ∈ l, f x ≤ l.foldl (fun n x => if n < f x then f x else n) b) ∧
    (l.foldl (fun n x => if n < f x then f x else n) b = b ∨ ∃ x ∈ l, l.foldl (fun n x => if n < f x then f x else n) b = f x)
  | [], b => ⟨Int.le_refl _, fun x hx => (by cases hx), .inl rfl⟩
  | x :: l, b => by
    rw [List.foldl_cons]
    obtain ⟨a1, a2, a3⟩ := mostFold f l (if b < f x then f x else b)
    have hb : b ≤ (if b < f x then f x else b) ∧ f x ≤ (if b < f x then f x else b) ∧ ((if b < f x then f x else b) = b ∨ (if b < f x then f x else b) = f x) := by
      split
      · exact ⟨by omega, by omega, .inr rfl⟩
      · exact ⟨by omega, by omega, .inl rfl⟩
    refine ⟨Int.le_trans hb.1 a1, fun y hy => ?_, ?_⟩
    · rcases List.mem_cons.1 hy with rfl | hy
      · exact Int.le_trans hb.2.1 a1
      · exact a2 y hy
    · rcases a3 with e | ⟨y, hy, e⟩
      · rw [e]
        rcases hb.2.2 with h | h
        · exact .inl h
        · exact .inr ⟨x, by simp, h⟩
      · exact .inr ⟨y, List.mem_cons_of_mem _ hy, e⟩
theorem mostOf_same {b : Int} {f : Itm → Int} {l m : List Itm} (hm : ∀ x, x ∈ l ↔ x ∈ m) : mostOf b f l = mostOf b f m := by
  obtain ⟨a1, a2, a3⟩ := mostFold f l b
  obtain ⟨b1, b2, b3⟩ := mostFold f m b
  unfold mostOf
  have h1 : l.foldl (fun n x => if n < f x then f x else n) b ≤ m.foldl (fun n x => if n < f x then f x else n) b := by
    rcases a3 with e | ⟨x, hx, e⟩
    · rw [e]; exact b1
    · rw [e]; exact b2 x ((hm x).1 hx)
  have h2 : m.foldl (fun n x => if n < f x then f x else n) b ≤ l.foldl (fun n x => if n < f x then f x else n) b := by
    rcases b3 with e | ⟨x, hx, e⟩
    · rw [e]; exact a1
    · rw [e]; exact a2 x ((hm x).2 hx)
  omega

/-- A mail, and a box. -/
structure Ml where
  uid : Int
  flags : Int
  text : ByteArray
structure Bx where
  valid : Int
  user : ByteArray
  name : ByteArray
  next : Int
  mails : List Ml

/-- The record of a kind, a box and a mail with the greatest number. -/
def bestR (kind valid uid : Int) (l : List Itm) : Option Itm := bestO (fun _ => 0) (fun x => decide (x.2.kind = kind ∧ x.2.valid = valid ∧ x.2.uid = uid)) l
/-- The record of a box that tells its user and name. -/
def tellO (valid : Int) (l : List Itm) : Option Itm := bestO (fun x => x.2.next) (fun x => decide (x.2.kind = 1 ∧ x.2.valid = valid)) l
/-- What one record says of the next mail's number. -/
def nextK (valid : Int) (x : Itm) : Int := if x.2.valid = valid then (if x.2.kind = 1 then x.2.next else if x.2.kind = 3 ∨ x.2.kind = 5 then x.2.uid + 1 else 0) else 0
def nextOf (valid : Int) (l : List Itm) : Int := mostOf 1 (nextK valid) l
def uidK (valid : Int) (l : List Itm) (x : Itm) : Option Int := if x.2.kind = 3 ∧ x.2.valid = valid ∧ bestR 5 valid x.2.uid l = none then some x.2.uid else none
def mailK (valid : Int) (l : List Itm) (u : Int) : Ml :=
  ⟨u, ((bestR 4 valid u l).or (bestR 3 valid u l)).elim 0 (fun y => y.2.flags), (bestR 3 valid u l).elim emp (fun y => y.2.text)⟩
def mailsOf (valid : Int) (l : List Itm) : List Ml := (upOf (uidK valid l) l).map (mailK valid l)
def validK (l : List Itm) (x : Itm) : Option Int := if x.2.kind = 1 ∧ bestR 2 x.2.valid 0 l = none then some x.2.valid else none
def boxK (l : List Itm) (v : Int) : Bx := ⟨v, (tellO v l).elim emp (fun y => y.2.user), (tellO v l).elim emp (fun y => y.2.name), nextOf v l, mailsOf v l⟩
/-- Right items. -/
def itemsOk (l : List Itm) : Prop := (∀ x ∈ l, (1 ≤ x.1 ∧ x.1 ≤ 1000000000) ∧ x.2.ok) ∧ Uniq l ∧ l.length ≤ 200
/-- What right items tell. -/
def tellAll (l : List Itm) : List Bx := (upOf (validK l) l).map (boxK l)

theorem mailsOf_same {l m : List Itm} (hu : Uniq l) (hm : ∀ x, x ∈ l ↔ x ∈ m) (v : Int) : mailsOf v l = mailsOf v m := by
  have hb : ∀ k v u, bestR k v u l = bestR k v u m := fun k v u => bestO_same hu hm
  have e1 : uidK v l = uidK v m := by funext x; unfold uidK; rw [hb]
  have e2 : mailK v l = mailK v m := by funext u; unfold mailK; rw [hb, hb]
  unfold mailsOf
  rw [e2, e1, upOf_same hm (fun x _ => rfl)]
/-- All is told the same, in whatever order the records lie, and however often one lies there. -/
theorem tellAll_same {l m : List Itm} (hu : Uniq l) (hm : ∀ x, x ∈ l ↔ x ∈ m) : tellAll l = tellAll m := by
  have hb : ∀ k v u, bestR k v u l = bestR k v u m := fun k v u => bestO_same hu hm
  have ht : ∀ v, tellO v l = tellO v m := fun v => bestO_same hu hm
  have e1 : validK l = validK m := by funext x; unfold validK; rw [hb]
  have e2 : boxK l = boxK m := by funext v; unfold boxK nextOf; rw [ht, mailsOf_same hu hm, mostOf_same hm]
  unfold tellAll
  rw [e2, e1, upOf_same hm (fun x _ => rfl)]

theorem bestR_none {kind valid uid : Int} {l : List Itm} (h : bestR kind valid uid l = none) (x : Itm) (hx : x ∈ l) : ¬ (x.2.kind = kind ∧ x.2.valid = valid ∧ x.2.uid = uid) := by
  have := bestO_I (fun _ => 0) (fun x => decide (x.2.kind = kind ∧ x.2.valid = valid ∧ x.2.uid = uid)) l
  unfold bestR at h
  rw [h] at this
  exact of_decide_eq_false (this x hx)
theorem bestR_some {kind valid uid : Int} {l : List Itm} {x : Itm} (h : bestR kind valid uid l = some x) : x ∈ l ∧ (x.2.kind = kind ∧ x.2.valid = valid ∧ x.2.uid = uid) ∧ ∀ y ∈ l, y.2.kind = kind → y.2.valid = valid → y.2.uid = uid → y.1 ≤ x.1 := by
  have := bestO_I (fun _ => 0) (fun x => decide (x.2.kind = kind ∧ x.2.valid = valid ∧ x.2.uid = uid)) l
  unfold bestR at h
  rw [h] at this
  refine ⟨this.1, of_decide_eq_true this.2.1, fun y hy a b c => ?_⟩
  have := this.2.2 y hy (decide_eq_true ⟨a, b, c⟩)
  dsimp only at this
  omega
theorem bestR_there {kind valid uid : Int} {l : List Itm} {x : Itm} (hx : x ∈ l) (h : x.2.kind = kind ∧ x.2.valid = valid ∧ x.2.uid = uid) : ∃ y, bestR kind valid uid l = some y := by
  cases hb : bestR kind valid uid l with
  | none => exact absurd h (bestR_none hb x hx)
  | some y => exact ⟨y, rfl⟩

/-- The numbers of a box's mails: added, and not gone. -/
theorem mem_uids {v : Int} {l : List Itm} {n : Int} : n ∈ upOf (uidK v l) l ↔ (∃ x ∈ l, x.2.kind = 3 ∧ x.2.valid = v ∧ x.2.uid = n) ∧ bestR 5 v n l = none := by
  rw [mem_upOf]
  constructor
  · rintro ⟨x, hx, e⟩
    unfold uidK at e
    split at e
    · rename_i h
      cases e
      exact ⟨⟨x, hx, h.1, h.2.1, rfl⟩, h.2.2⟩
    · cases e
  · rintro ⟨⟨x, hx, a, b, rfl⟩, h⟩
    refine ⟨x, hx, ?_⟩
    unfold uidK
    rw [if_pos ⟨a, b, h⟩]
theorem mails_uids (v : Int) (l : List Itm) : (mailsOf v l).map (·.uid) = upOf (uidK v l) l := by
  unfold mailsOf
  rw [List.map_map]
  exact List.map_id' _
theorem mails_up (v : Int) (l : List Itm) : (mailsOf v l).Pairwise (fun a b => a.uid < b.uid) := by
  have := upOf_up (uidK v l) l
  rw [← mails_uids] at this
  exact List.pairwise_map.1 this
/-- A mail that is told was added; it is not gone; its number lies below the next one. -/
theorem mails_told {v : Int} {l : List Itm} {m : Ml} (h : m ∈ mailsOf v l) : m.uid < nextOf v l ∧ (∀ x ∈ l, ¬ (x.2.kind = 5 ∧ x.2.valid = v ∧ x.2.uid = m.uid)) := by
  have hu : m.uid ∈ upOf (uidK v l) l := by rw [← mails_uids]; exact List.mem_map_of_mem h
  obtain ⟨⟨x, hx, a, b, c⟩, hg⟩ := mem_uids.1 hu
  refine ⟨?_, fun y hy => bestR_none hg y hy⟩
  have := (mostFold (nextK v) l 1).2.1 x hx
  have e : nextK v x = x.2.uid + 1 := by
    unfold nextK
    rw [if_pos b, if_neg (by omega), if_pos (.inl a)]
  rw [e] at this
  unfold nextOf mostOf
  omega
theorem add_below {v : Int} {l : List Itm} {x : Itm} (hx : x ∈ l) (a : x.2.kind = 3) (b : x.2.valid = v) : x.2.uid < nextOf v l := by
  have := (mostFold (nextK v) l 1).2.1 x hx
  have e : nextK v x = x.2.uid + 1 := by
    unfold nextK
    rw [if_pos b, if_neg (by omega), if_pos (.inl a)]
  rw [e] at this
  unfold nextOf mostOf
  omega
/-- The boxes that are told: told of, and not dropped; their numbers rise. -/
theorem mem_valids {l : List Itm} {n : Int} : n ∈ upOf (validK l) l ↔ (∃ x ∈ l, x.2.kind = 1 ∧ x.2.valid = n) ∧ bestR 2 n 0 l = none := by
  rw [mem_upOf]
  constructor
  · rintro ⟨x, hx, e⟩
    unfold validK at e
    split at e
    · rename_i h
      cases e
      exact ⟨⟨x, hx, h.1, rfl⟩, h.2⟩
    · cases e
  · rintro ⟨⟨x, hx, a, rfl⟩, h⟩
    refine ⟨x, hx, ?_⟩
    unfold validK
    rw [if_pos ⟨a, h⟩]
theorem boxes_valids (l : List Itm) : (tellAll l).map (·.valid) = upOf (validK l) l := by
  unfold tellAll
  rw [List.map_map]
  exact List.map_id' _
theorem boxes_up (l : List Itm) : (tellAll l).Pairwise (fun a b => a.valid < b.valid) := by
  have := upOf_up (validK l) l
  rw [← boxes_valids] at this
  exact List.pairwise_map.1 this
theorem box_form {l : List Itm} {b : Bx} (h : b ∈ tellAll l) : b = boxK l b.valid := by
  obtain ⟨v, _, rfl⟩ := List.mem_map.1 h
  rfl
theorem box_kept {l : List Itm} {b : Bx} (h : b ∈ tellAll l) (x : Itm) (hx : x ∈ l) (hok : x.2.ok) (hv : x.2.valid = b.valid) : x.2.kind ≠ 2 := by
  intro hk
  have hu : b.valid ∈ upOf (validK l) l := by rw [← boxes_valids]; exact List.mem_map_of_mem h
  refine bestR_none (mem_valids.1 hu).2 x hx ⟨hk, hv, ?_⟩
  have h4 := hok.2.2.2.1
  split at h4 <;> omega

end Go.Proofs.Ythlbokfajiahpaa

/- Right items, plainly: as they are gone through. -/
namespace Go.Proofs.Ythlbokfajiahpaa

theorem upOf_take {f : Itm → Option Int} {l : List Itm} {i : Nat} {x : Itm} (h : l[i]? = some x) : upOf f (l.take (i + 1)) = match f x with | some n => insI (upOf f (l.take i)) n | none => upOf f (l.take i) := by
  unfold upOf
  rw [List.take_add_one, h, List.foldl_append]
  rfl
theorem insI_len (l : List Int) (x : Int) : (insI l x).length ≤ l.length + 1 := by
  unfold insI
  rw [List.length_append, List.length_cons]
  have h : ∀ l : List Int, (l.filter (fun y => decide (y < x))).length + (l.filter (fun y => decide (x < y))).length ≤ l.length := by
    intro l
    induction l with
    | nil => simp
    | cons y l ih =>
      simp only [List.filter_cons, List.length_cons]
      by_cases h1 : y < x
      · have h2 : ¬ x < y := by omega
        simp [h1, h2]; omega
      · by_cases h2 : x < y
        · simp [h1, h2]; omega
        · simp [h1, h2]; omega
  have := h l
  omega
theorem upOf_len (f : Itm → Option Int) (l : List Itm) : ∀ i, (upOf f (l.take i)).length ≤ i
  | 0 => by simp [upOf]
  | i + 1 => by
    have ih := upOf_len f l i
    cases h : l[i]? with
    | none =>
      have h2 : l.take (i + 1) = l.take i := by rw [List.take_add_one, h]; simp
      rw [h2]; omega
    | some x =>
      rw [upOf_take h]
      split
      · have := insI_len (upOf f (l.take i)) ‹Int›; omega
      · omega

/-- An item that is right by itself. -/
def itOk (x : Itm) : Prop := (1 ≤ x.1 ∧ x.1 ≤ 1000000000) ∧ x.2.ok
/-- The first i are right, and no two of them part. -/
def ItG (l : List Itm) (i : Nat) : Prop := (∀ (j : Nat) (x : Itm), l[j]? = some x → j < i → itOk x) ∧ ∀ (j k : Nat) (x y : Itm), l[j]? = some x → l[k]? = some y → j < k → k < i → x.1 = y.1 → x = y
noncomputable instance decItemsOk (l : List Itm) : Decidable (itemsOk l) := Classical.propDecidable _

theorem ItG.zero (l : List Itm) : ItG l 0 := ⟨fun _ _ _ h => by omega, fun _ _ _ _ _ _ _ h => by omega⟩
theorem ItG.next {l : List Itm} {i : Nat} {x : Itm} (h : ItG l i) (hx : l[i]? = some x) (hok : itOk x) (hd : ∀ (j : Nat) (y : Itm), l[j]? = some y → j < i → y.1 = x.1 → y = x) : ItG l (i + 1) := by
  refine ⟨fun j y hy hj => ?_, fun j k y z hy hz hjk hk e => ?_⟩
  · by_cases e : j = i
    · subst e; rw [hx] at hy; cases hy; exact hok
    · exact h.1 j y hy (by omega)
  · by_cases e2 : k = i
    · subst e2; rw [hx] at hz; cases hz; exact hd j y hy hjk e
    · exact h.2 j k y z hy hz hjk (by omega) e
theorem ItG.done {l : List Itm} (h : ItG l l.length) : decide (itemsOk l) = decide (l.length ≤ 200) := by
  apply decide_eq_decide.2
  constructor
  · exact fun c => c.2.2
  · intro hl
    refine ⟨fun x hx => ?_, fun x hx y hy e => ?_, hl⟩
    · obtain ⟨j, hj, rfl⟩ := List.getElem_of_mem hx
      exact h.1 j _ (List.getElem?_eq_getElem hj) hj
    · obtain ⟨j, hj, rfl⟩ := List.getElem_of_mem hx
      obtain ⟨k, hk, rfl⟩ := List.getElem_of_mem hy
      rcases Nat.lt_trichotomy j k with c | c | c
      · exact h.2 j k _ _ (List.getElem?_eq_getElem hj) (List.getElem?_eq_getElem hk) c hk e
      · subst c; rfl
      · exact (h.2 k j _ _ (List.getElem?_eq_getElem hk) (List.getElem?_eq_getElem hj) c hj e.symm).symm
theorem items_bad {l : List Itm} {i : Nat} {x : Itm} (hx : l[i]? = some x) (h : ¬ itOk x) : decide (itemsOk l) = false :=
  decide_eq_false fun c => h (c.1 x (List.mem_of_getElem? hx))
theorem items_part {l : List Itm} {j i : Nat} {x y : Itm} (hx : l[j]? = some x) (hy : l[i]? = some y) (e : x.1 = y.1) (h : x ≠ y) : decide (itemsOk l) = false :=
  decide_eq_false fun c => h (c.2.1 x (List.mem_of_getElem? hx) y (List.mem_of_getElem? hy) e)

end Go.Proofs.Ythlbokfajiahpaa

/- Items in another order, plainly. -/
namespace Go.Proofs.Ythlbokfajiahpaa

/-- The first i of a list that is turned by k. -/
def rotL (l : List Itm) (k i : Nat) : List Itm := (List.range i).map (fun j => l.getD ((j + k) % l.length) (0, ⟨0, 0, 0, 0, 0, ⟨#[]⟩, ⟨#[]⟩, ⟨#[]⟩⟩))
theorem rotL_len (l : List Itm) (k i : Nat) : (rotL l k i).length = i := by simp [rotL]
theorem rotL_succ {l : List Itm} {k i : Nat} {x : Itm} (h : l[(i + k) % l.length]? = some x) : rotL l k (i + 1) = rotL l k i ++ [x] := by
  simp [rotL, List.range_succ, List.getD, h]
theorem rotL_mem {l : List Itm} {k : Nat} (h0 : 0 < l.length) (hk : k < l.length) (x : Itm) : x ∈ rotL l k l.length ↔ x ∈ l := by
  unfold rotL
  rw [List.mem_map]
  constructor
  · rintro ⟨j, _, rfl⟩
    have hj : (j + k) % l.length < l.length := Nat.mod_lt _ h0
    simp only [List.getD, List.getElem?_eq_getElem hj, Option.getD_some]
    exact List.getElem_mem hj
  · intro hx
    obtain ⟨p, hp, rfl⟩ := List.getElem_of_mem hx
    by_cases c : k ≤ p
    · refine ⟨p - k, by simp; omega, ?_⟩
      have e : (p - k + k) % l.length = p := by rw [Nat.sub_add_cancel c]; exact Nat.mod_eq_of_lt hp
      rw [e]; simp only [List.getD, List.getElem?_eq_getElem hp, Option.getD_some]
    · refine ⟨p + l.length - k, by simp; omega, ?_⟩
      have e : (p + l.length - k + k) % l.length = p := by
        have : p + l.length - k + k = p + l.length := by omega
        rw [this, Nat.add_mod_right]; exact Nat.mod_eq_of_lt hp
      rw [e]; simp only [List.getD, List.getElem?_eq_getElem hp, Option.getD_some]

/-- Two neighbours change places. -/
theorem swap_mem {m : List Itm} {i j : Nat} {x y : Itm} (hx : m[i]? = some x) (hy : m[j]? = some y) (hij : i ≠ j) (z : Itm) : z ∈ (m.set i y).set j x ↔ z ∈ m := by
  have hi := (List.getElem?_eq_some_iff.1 hx).1
  have hj := (List.getElem?_eq_some_iff.1 hy).1
  have at' : ∀ q, ((m.set i y).set j x)[q]? = if q = j then some x else if q = i then some y else m[q]? := fun q => by
    by_cases c : q = j
    · subst c; rw [if_pos rfl, List.getElem?_set_self (by simpa using hj)]
    · rw [if_neg c, List.getElem?_set_ne (fun e => c e.symm)]
      by_cases d : q = i
      · subst d; rw [if_pos rfl, List.getElem?_set_self hi]
      · rw [if_neg d, List.getElem?_set_ne (fun e => d e.symm)]
  constructor
  · intro hz
    obtain ⟨q, hq⟩ := List.getElem?_of_mem hz
    rw [at'] at hq
    by_cases c : q = j
    · rw [if_pos c] at hq; rw [← Option.some.inj hq]; exact List.mem_of_getElem? hx
    · rw [if_neg c] at hq
      by_cases d : q = i
      · rw [if_pos d] at hq; rw [← Option.some.inj hq]; exact List.mem_of_getElem? hy
      · rw [if_neg d] at hq; exact List.mem_of_getElem? hq
  · intro hz
    obtain ⟨q, hq⟩ := List.getElem?_of_mem hz
    by_cases c : q = j
    · subst c
      rw [hy] at hq
      have h1 := at' i
      rw [if_neg hij, if_pos rfl] at h1
      rw [← Option.some.inj hq]
      exact List.mem_of_getElem? h1
    · by_cases d : q = i
      · subst d
        rw [hx] at hq
        have h1 := at' j
        rw [if_pos rfl] at h1
        rw [← Option.some.inj hq]
        exact List.mem_of_getElem? h1
      · have h1 := at' q
        rw [if_neg c, if_neg d, hq] at h1
        exact List.mem_of_getElem? h1

end Go.Proofs.Ythlbokfajiahpaa

/- What a list is that a call builds in memory of its own, whatever its elements are (each of so many cells), and the laws by which it grows, is read and is written; and a list that can be read. -/
namespace Go.Proofs.Ythlbokfajiahpaa
open Go.RowKit

/-- How an element lies in memory. -/
structure Enc (α : Type) where
  ty : TypeId
  sty : TypeId
  sz : Nat
  bytes : Nat
  zero : Value
  f : α → List Value
  len : ∀ a, (f a).length = sz
  pos : 0 < sz
  one : ∀ a, ∀ u ∈ f a, u.oneCell' = true
  und : Try.prog.underlying sty = some (.slice ty)
  info : (Try.prog.info? ty).map (fun i => (i.zero, i.size, i.bytes)) = some (some zero, sz, bytes)
  zc : zero.cells.size = sz
  z0 : α
  zf : f z0 = zero.cells.toList

variable {α : Type}

def Enc.row (E : Enc α) (l : List α) : List Value := l.flatMap E.f

theorem Enc.row_length (E : Enc α) (l : List α) : (E.row l).length = l.length * E.sz := by
  induction l with
  | nil => simp [Enc.row]
  | cons x l ih =>
    have : E.row (x :: l) = E.f x ++ E.row l := rfl
    rw [this, List.length_append, ih, E.len, List.length_cons, Nat.succ_mul, Nat.add_comm]

theorem Enc.row_append (E : Enc α) (l m : List α) : E.row (l ++ m) = E.row l ++ E.row m := by simp [Enc.row]

theorem Enc.row_one (E : Enc α) (x : α) : E.row [x] = E.f x := by simp [Enc.row]

theorem Enc.row_at (E : Enc α) (l : List α) (j : Nat) (x : α) (hj : l[j]? = some x) (k : Nat) (hk : k < E.sz) : (E.row l)[j * E.sz + k]? = (E.f x)[k]? := by
  induction l generalizing j with
  | nil => simp at hj
  | cons y l ih =>
    have e : E.row (y :: l) = E.f y ++ E.row l := rfl
    rw [e]
    cases j with
    | zero =>
      have : y = x := by simpa using hj
      subst this
      rw [Nat.zero_mul, Nat.zero_add, List.getElem?_append_left (by rw [E.len]; exact hk)]
    | succ j =>
      have hj' : l[j]? = some x := by simpa using hj
      rw [List.getElem?_append_right (by rw [E.len, Nat.succ_mul]; omega), E.len]
      have : (j + 1) * E.sz + k - E.sz = j * E.sz + k := by rw [Nat.succ_mul]; omega
      rw [this]
      exact ih j hj'

theorem Enc.row_set (E : Enc α) (l : List α) (j : Nat) (x y : α) (hj : l[j]? = some x) (k : Nat) (hk : k < E.sz) (u : Value) (hy : E.f y = (E.f x).set k u) : E.row (l.set j y) = (E.row l).set (j * E.sz + k) u := by
  induction l generalizing j with
  | nil => simp at hj
  | cons z l ih =>
    have e : E.row (z :: l) = E.f z ++ E.row l := rfl
    rw [e]
    cases j with
    | zero =>
      have : z = x := by simpa using hj
      subst this
      have e2 : E.row ((z :: l).set 0 y) = E.f y ++ E.row l := rfl
      rw [e2, hy, Nat.zero_mul, Nat.zero_add, List.set_append_left _ _ (by rw [E.len]; exact hk)]
    | succ j =>
      have hj' : l[j]? = some x := by simpa using hj
      have e2 : E.row ((z :: l).set (j + 1) y) = E.f z ++ E.row (l.set j y) := rfl
      rw [e2, List.set_append_right _ _ (by rw [E.len, Nat.succ_mul]; omega), E.len]
      have : (j + 1) * E.sz + k - E.sz = j * E.sz + k := by rw [Nat.succ_mul]; omega
      rw [this, ih j hj']

theorem Enc.row_one' (E : Enc α) (l : List α) : ∀ u ∈ E.row l, u.oneCell' = true := by
  intro u hu
  simp only [Enc.row, List.mem_flatMap] at hu
  obtain ⟨a, _, ha⟩ := hu
  exact E.one a u ha

/-- The slice v holds the elements l in memory that the call made itself (blocks from B on); below B all is as it was in w0. -/
structure RBuf (E : Enc α) (B : Nat) (w0 w : World) (v : Value) (l : List α) : Prop where
  own : w.ownsRow B E.ty E.sz v l.length (E.row l)
  bel : Below B w0 w
  le : B ≤ w.heap.size

variable {E : Enc α} {B : Nat} {w0 w : World} {v : Value} {l : List α}

theorem RBuf.alloc (h : RBuf E B w0 w v l) (o : Obj) : RBuf E B w0 (w.alloc o) v l :=
  ⟨h.own.alloc o, h.bel.alloc h.le o, by have := h.le; simp; omega⟩
theorem RBuf.drew (h : RBuf E B w0 w v l) : RBuf E B w0 w.drew v l := ⟨h.own.drew, h.bel.drew, h.le⟩
theorem RBuf.here (h : RBuf E B w0 w v l) : RBuf E B w w v l := ⟨h.own, Below.refl _ _, h.le⟩

theorem RBuf.nil (E : Enc α) (w : World) : RBuf E w.heap.size w w (.slice none 0 0) [] :=
  ⟨World.ownsRow_nil _ _ _ _, Below.refl _ _, Nat.le_refl _⟩

theorem RBuf.fresh (E : Enc α) (w : World) : RBuf E w.heap.size w (w.alloc (.cells #[] E.ty)) (.slice (some ⟨w.heap.size, 0, none⟩) 0 0) [] :=
  ⟨World.ownsRow_made w #[] 0 (Nat.le_refl _) (by decide) (by simp), (Below.refl _ _).alloc (Nat.le_refl _) _, by simp⟩

/-- What leaves the row's own block alone leaves the list as it is. -/
theorem RBuf.grown (h : RBuf E B w0 w v l) {w' : World} {r : Option Nat} (hg : w.grownBy w' r) (hne : v.ownBlock = none ∨ v.ownBlock ≠ r) (hb : ∀ k, r = some k → B ≤ k) : RBuf E B w0 w' v l :=
  ⟨h.own.kept hg hne, h.bel.grown hg h.le hb, Nat.le_trans h.le hg.size⟩

theorem RBuf.later (h : RBuf E B w0 w v l) {w' : World} (hb : Below w.heap.size w w') : RBuf E B w0 w' v l := by
  have hg : w.grownBy w' none := ⟨hb.os, hb.tape, hb.output, hb.size, fun k hk _ => hb.block k hk⟩
  refine ⟨h.own.kept hg ?_, h.bel.trans (hb.mono h.le), Nat.le_trans h.le hb.size⟩
  cases hv : v.ownBlock with
  | none => exact .inl rfl
  | some k => exact .inr (by simp)

/-- The same list under a lower base. -/
theorem RBuf.down {B0 : Nat} {w1 : World} (h : RBuf E B w1 w v l) (hb : Below B0 w0 w) (hB : B0 ≤ B) : RBuf E B0 w0 w v l := by
  refine ⟨⟨h.own.1, ?_⟩, hb, Nat.le_trans hB h.le⟩
  rcases h.own.2 with h1 | ⟨g, cap, cur, h1, h2, h3⟩
  · exact .inl h1
  · exact .inr ⟨g, cap, cur, h1, Nat.le_trans hB h2, h3⟩

theorem RBuf.form (h : RBuf E B w0 w v l) : ∃ (a : Option Addr) (cap : Nat), v = .slice a l.length cap := by
  rcases h.own.2 with ⟨rfl, h0⟩ | ⟨g, cap, cur, rfl, _⟩
  · exact ⟨none, 0, by rw [h0]⟩
  · exact ⟨_, _, rfl⟩

/-- An append of elements that lie at ad. -/
theorem wpList_append_row {ops : Array Oper} {rest : List Oper} {o : Oper} {a : Act} {Q : Exit → Act → World → Prop} (hgd : o.guard = none) (s x : Operand)
    (E : Enc α) (ho : o.op = .call { callee := .builtin .append, args := #[s, x], argTypes := #[E.sty, E.sty] })
    (B : Nat) (v : Value) (l : List α) (hs : a.eval s = v) (hb : RBuf E B w0 w v l)
    (ad : Addr) (news : List α) (c : Nat) (hx : a.eval x = .slice (some ad) news.length c)
    (hnews : ∀ j u, (E.row news)[j]? = some u → w.cell? (ad.add j) = some u)
    (hlen : (l.length + news.length) * (E.bytes + 1) ≤ 140737488355328)
    (h : ∀ v' w', RBuf E B w0 w' v' (l ++ news) → w.grownBy w' v.ownBlock → (v'.ownBlock = v.ownBlock ∨ v'.ownBlock = some w.heap.size) → wpList Try.prog ops Q rest (a.put o.dst v') w') : wpList Try.prog ops Q (o :: rest) a w := by
  obtain ⟨i0, hi, hz0, hz1, hz2⟩ := info_parts E.info
  have e0 : (l.length + news.length) * (E.bytes + 1) = (l.length + news.length) * E.bytes + (l.length + news.length) := Nat.mul_succ _ _
  refine wpList_append_own_at _ hgd s x E.sty ho B E.ty i0 E.zero E.sz E.bytes E.und hi hz0 hz1 hz2 E.zc E.pos v l.length (E.row l) hs hb.own ad news.length c (E.row news) hx (E.row_length news) hnews (E.row_one' news) (by unfold maxLen; omega) (by omega) hb.le ?_
  intro v' w' hown hgrow _ hat
  refine h v' w' ⟨?_, hb.bel.grown hgrow hb.le (fun k hk => (hb.own.lt k hk).1), Nat.le_trans hb.le hgrow.size⟩ hgrow hat
  have e1 : (l ++ news).length = l.length + news.length := by simp
  rw [e1, E.row_append]
  exact hown

/-- Elements that can be read: each in its cells of a row; nothing where there is none. -/
def Rows' (E : Enc α) (w : World) (v : Value) (l : List α) : Prop :=
  (l = [] ∧ ∃ (a : Option Addr) (cap : Nat), v = .slice a 0 cap) ∨
  ∃ g off cap : Nat, v = .slice (some ⟨g, off, none⟩) l.length cap ∧ l.length ≤ cap ∧ g < w.heap.size ∧
    ∀ j x, l[j]? = some x → ∀ k u, (E.f x)[k]? = some u → w.cell? ⟨g, off + j * E.sz + k, none⟩ = some u

theorem RBuf.cell (h : RBuf E B w0 w v l) {g cap : Nat} (hv : v = .slice (some ⟨g, 0, none⟩) l.length cap) (j : Nat) (x : α) (hj : l[j]? = some x) (k : Nat) (u : Value) (hk : (E.f x)[k]? = some u) : w.cell? ⟨g, j * E.sz + k, none⟩ = some u := by
  subst hv
  have hlt : j < l.length := (List.getElem?_eq_some_iff.1 hj).1
  have hks : k < E.sz := by rw [← E.len x]; exact (List.getElem?_eq_some_iff.1 hk).1
  have : j * E.sz + k < l.length * E.sz := by
    have : (j + 1) * E.sz ≤ l.length * E.sz := Nat.mul_le_mul_right _ hlt
    rw [Nat.succ_mul] at this; omega
  rw [h.own.cellAt _ this, E.row_at l j x hj k hks, hk]

theorem RBuf.rows (h : RBuf E B w0 w v l) : Rows' E w v l := by
  rcases h.own.2 with ⟨rfl, h0⟩ | ⟨g, cap, cur, rfl, hg, hh, hnc, hcp, hcs, htake⟩
  · exact .inl ⟨List.length_eq_zero_iff.1 h0, _, _, rfl⟩
  · refine .inr ⟨g, 0, cap, rfl, hnc, (h.own.lt g rfl).2, fun j x hj k u hk => ?_⟩
    rw [Nat.zero_add]
    exact h.cell rfl j x hj k u hk

theorem Rows'.later (h : Rows' E w v l) {w' : World} (hb : Below w.heap.size w w') : Rows' E w' v l := by
  rcases h with h | ⟨g, off, cap, hv, hc, hg, hcl⟩
  · exact .inl h
  · exact .inr ⟨g, off, cap, hv, hc, Nat.lt_of_lt_of_le hg hb.size, fun j x hj k u hk => (hb.cell (p := ⟨g, off + j * E.sz + k, none⟩) hg).trans (hcl j x hj k u hk)⟩

/-- A store into one cell of an element. -/
theorem RBuf.stored {g cap : Nat} (h : RBuf E B w0 w (.slice (some ⟨g, 0, none⟩) l.length cap) l) (j : Nat) (x y : α) (hj : l[j]? = some x) (k : Nat) (hk : k < E.sz) (u : Value) (hy : E.f y = (E.f x).set k u) :
    RBuf E B w0 (w.setCell ⟨g, j * E.sz + k, none⟩ u) (.slice (some ⟨g, 0, none⟩) l.length cap) (l.set j y) := by
  have hst := h.own.stored (j * E.sz + k) u
  refine ⟨?_, h.bel.setCell (h.own.lt g rfl).1 _, by have := h.le; simpa using this⟩
  have hl : (l.set j y).length = l.length := by simp
  rw [hl, E.row_set l j x y hj k hk u hy]
  exact hst.1

theorem RBuf.loose {g cap : Nat} (h : RBuf E B w0 w (.slice (some ⟨g, 0, none⟩) l.length cap) l) (j : Nat) : w.frozen? ⟨g, j, none⟩ = false := h.own.frozenAt j

theorem Enc.row_made (E : Enc α) (n : Nat) : (madeCells E.zero.cells (n * E.sz)).toList = E.row (List.replicate n E.z0) := by
  apply List.ext_getElem?
  intro i
  have hl : (E.row (List.replicate n E.z0)).length = n * E.sz := by rw [E.row_length, List.length_replicate]
  by_cases hi : i < n * E.sz
  · have hdm : i / E.sz * E.sz + i % E.sz = i := Nat.div_add_mod' i E.sz
    have hj : i / E.sz < n := (Nat.div_lt_iff_lt_mul E.pos).2 hi
    have hk : i % E.sz < E.sz := Nat.mod_lt _ E.pos
    have h1 : (List.replicate n E.z0)[i / E.sz]? = some E.z0 := by rw [List.getElem?_replicate, if_pos hj]
    have h2 := E.row_at _ _ _ h1 _ hk
    rw [hdm] at h2
    rw [h2, E.zf]
    have hz : i % E.sz < E.zero.cells.size := by rw [E.zc]; exact hk
    simp [madeCells, hi, E.zc]
    rw [getElem!_pos E.zero.cells (i % E.sz) hz, Array.getElem?_eq_getElem hz]
  · rw [List.getElem?_eq_none (by simp [madeCells]; omega), List.getElem?_eq_none (by omega)]

/-- make([]T, n). -/
theorem wpList_make_rows {ops : Array Oper} {rest : List Oper} {o : Oper} {a : Act} {Q : Exit → Act → World → Prop} (hg : o.guard = none) (x c : Operand) (E : Enc α) (hop : o.op = Op.makeSlice E.sty x c)
    (kl kc : IntKind) (L C : Int) (n : Nat) (hl : a.eval x = .int kl L) (hc : a.eval c = .int kc C) (hL : L = (n : Int)) (hC : C = (n : Int)) (hn : (E.bytes + 1) * n ≤ 281474976710656)
    (h : ∀ w', RBuf E w.heap.size w w' (.slice (some ⟨w.heap.size, 0, none⟩) n n) (List.replicate n E.z0) → w.heap.size < w'.heap.size → wpList Try.prog ops Q rest (a.put o.dst (.slice (some ⟨w.heap.size, 0, none⟩) n n)) w') : wpList Try.prog ops Q (o :: rest) a w := by
  obtain ⟨i0, hi, hz0, hz1, hz2⟩ := info_parts E.info
  have e0 : (E.bytes + 1) * n = E.bytes * n + n := Nat.succ_mul _ _
  refine wpList_make_full w hg x c E.sty hop w.heap.size E.ty i0 E.zero E.sz E.und hi hz0 hz1 kl kc L C n hl hc hL hC (by rw [hz2]; omega) (by unfold maxLen; omega) (Nat.le_refl _) ?_
  intro w' hown hgrow
  rw [E.row_made] at hown
  refine h w' ⟨?_, (Below.refl _ _).grown hgrow (Nat.le_refl _) (fun k hk => by cases hk), hgrow.size⟩ (hown.lt w.heap.size rfl).2
  rw [List.length_replicate]
  exact hown

end Go.Proofs.Ythlbokfajiahpaa

/- Appends of one list of the call's own to another, at an operation, in a list of operations and in a region that draws its order. -/
namespace Go.Proofs.Ythlbokfajiahpaa
open Go.RowKit

variable {α : Type} {E : Enc α}

theorem RBuf.shift {B : Nat} {w w' : World} {v : Value} {l : List α} {r : Option Nat} (h : RBuf E B w w v l) (hg : w.grownBy w' r) (hne : v.ownBlock = none ∨ v.ownBlock ≠ r) : RBuf E B w' w' v l :=
  ⟨h.own.kept hg hne, Below.refl _ _, Nat.le_trans h.le hg.size⟩

theorem RBuf.lower {B B0 : Nat} {w : World} {v : Value} {l : List α} (h : RBuf E B w w v l) (hB : B0 ≤ B) : RBuf E B0 w w v l := h.down (Below.refl _ _) hB

/-- What is appended: a list of whoever's own. -/
theorem run_append_rows {w : World} (ty : TypeId) (B : Nat) (v : Value) (l : List α) (hb : RBuf E B w w v l) (Bx : Nat) (vx : Value) (m : List α) (hx : RBuf E Bx w w vx m)
    (hlen : (l.length + m.length) * (E.bytes + 1) ≤ 140737488355328) :
    ∃ v' w', (Builtin.append_ #[E.sty, E.sty] ty #[v, vx]).run Try.prog w = .ok v' w' ∧ RBuf E B w' w' v' (l ++ m) ∧ w.grownBy w' v.ownBlock ∧ (v'.ownBlock = v.ownBlock ∨ v'.ownBlock = some w.heap.size) := by
  obtain ⟨i0, hi, hz0, hz1, hz2⟩ := info_parts E.info
  have e0 : (l.length + m.length) * (E.bytes + 1) = (l.length + m.length) * E.bytes + (l.length + m.length) := Nat.mul_succ _ _
  rcases hx.own.2 with ⟨rfl, h0⟩ | ⟨g, cap, cur, rfl, hg, hh, hnc, hcp, hcs, htake⟩
  · obtain rfl := List.length_eq_zero_iff.1 h0
    refine ⟨v, w, run_append_owned_none (P := Try.prog) w B E.sty ty E.ty i0 E.sz E.und hi v l.length (E.row l) hb.own, by simpa using hb, World.grownBy.refl _ _, .inl rfl⟩
  · obtain ⟨v', w', h1, h2, h3, _, h5⟩ := run_append_own_at (P := Try.prog) w B E.sty ty E.ty i0 E.zero E.sz E.bytes E.und hi hz0 hz1 hz2 E.zc E.pos v l.length (E.row l) hb.own ⟨g, 0, none⟩ m.length cap (E.row m) (E.row_length m)
      (fun j u hu => by
        have hjl : j < m.length * E.sz := by have := (List.getElem?_eq_some_iff.1 hu).1; rwa [E.row_length] at this
        rw [Addr.add_lit, Nat.zero_add, hx.own.cellAt j hjl]; exact hu) (E.row_one' m) (by unfold maxLen; omega) (by omega) hb.le
    refine ⟨v', w', h1, ⟨?_, Below.refl _ _, Nat.le_trans hb.le h3.size⟩, h3, h5⟩
    rw [List.length_append, E.row_append]
    exact h2

theorem wp_append_rows {w : World} {o : Oper} {a : Act} {K : Act → World → Prop} {Q : Exit → Act → World → Prop} (s x : Operand) (E : Enc α)
    (ho : o.op = .call { callee := .builtin .append, args := #[s, x], argTypes := #[E.sty, E.sty] })
    (B : Nat) (v : Value) (l : List α) (hs : a.eval s = v) (hb : RBuf E B w w v l) (Bx : Nat) (vx : Value) (m : List α) (hxv : a.eval x = vx) (hx : RBuf E Bx w w vx m)
    (hlen : (l.length + m.length) * (E.bytes + 1) ≤ 140737488355328)
    (h : ∀ v' w', RBuf E B w' w' v' (l ++ m) → w.grownBy w' v.ownBlock → (v'.ownBlock = v.ownBlock ∨ v'.ownBlock = some w.heap.size) → K (a.put o.dst v') w') : o.wp Try.prog a w K Q := by
  obtain ⟨v', w', hr, h2, h3, h4⟩ := run_append_rows o.type B v l hb Bx vx m hx hlen
  unfold Oper.wp execOp
  simp only [ho, resolve, invoke, builtin, Sem.run_bind, Sem.run_pure, Result.andThen_ok, List.map_toArray, List.map_cons, List.map_nil, hs, hxv, hr]
  exact h v' w' h2 h3 h4

theorem wpList_append_rows {w : World} {ops : Array Oper} {rest : List Oper} {o : Oper} {a : Act} {Q : Exit → Act → World → Prop} (hgd : o.guard = none) (s x : Operand) (E : Enc α)
    (ho : o.op = .call { callee := .builtin .append, args := #[s, x], argTypes := #[E.sty, E.sty] })
    (B : Nat) (v : Value) (l : List α) (hs : a.eval s = v) (hb : RBuf E B w w v l) (Bx : Nat) (vx : Value) (m : List α) (hxv : a.eval x = vx) (hx : RBuf E Bx w w vx m)
    (hlen : (l.length + m.length) * (E.bytes + 1) ≤ 140737488355328)
    (h : ∀ v' w', RBuf E B w' w' v' (l ++ m) → w.grownBy w' v.ownBlock → (v'.ownBlock = v.ownBlock ∨ v'.ownBlock = some w.heap.size) → wpList Try.prog ops Q rest (a.put o.dst v') w') : wpList Try.prog ops Q (o :: rest) a w :=
  wpList_plain hgd fun _ hK => wp_append_rows s x E ho B v l hs hb Bx vx m hxv hx hlen fun v' w' h2 h3 h4 => hK _ _ (h v' w' h2 h3 h4)

theorem step_append_rows {w : World} {ops : Array Oper} {o : Oper} {a : Act} {K : Act → World → Prop} {Q : Exit → Act → World → Prop} {X : Prop} (hgd : o.guard = none) (s x : Operand) (E : Enc α)
    (ho : o.op = .call { callee := .builtin .append, args := #[s, x], argTypes := #[E.sty, E.sty] })
    (B : Nat) (v : Value) (l : List α) (hs : a.eval s = v) (hb : RBuf E B w w v l) (Bx : Nat) (vx : Value) (m : List α) (hxv : a.eval x = vx) (hx : RBuf E Bx w w vx m)
    (hlen : (l.length + m.length) * (E.bytes + 1) ≤ 140737488355328)
    (h : ∀ v' w', RBuf E B w' w' v' (l ++ m) → w.grownBy w' v.ownBlock → (v'.ownBlock = v.ownBlock ∨ v'.ownBlock = some w.heap.size) → (∀ k, v.ownBlock = some k → B ≤ k ∧ k < w.heap.size) → K (a.put o.dst v') w') :
    if Region.wanted o (yielded ops a.tmps) = true then Oper.wp Try.prog o a w K Q else X := by
  have hw : Region.wanted o (yielded ops a.tmps) = true := by simp [Region.wanted, hgd]
  rw [if_pos hw]
  exact wp_append_rows s x E ho B v l hs hb Bx vx m hxv hx hlen fun v' w' h2 h3 h4 => h v' w' h2 h3 h4 (fun k hk => hb.own.lt k hk)

/-- One element in a new row, as an append asks for it. -/
theorem RBuf.lit1 (E : Enc α) (w : World) (x : α) : RBuf E w.heap.size (w.alloc (.cells (E.f x).toArray E.ty)) (w.alloc (.cells (E.f x).toArray E.ty)) (.slice (some ⟨w.heap.size, 0, none⟩) 1 1) [x] := by
  refine ⟨?_, Below.refl _ _, by simp⟩
  have := World.ownsRow_lit (base := w.heap.size) (e := E.ty) (size := E.sz) w (E.f x).toArray 1 (Nat.le_refl _) (by decide) (by simp [E.len])
  simpa [E.row_one] using this

end Go.Proofs.Ythlbokfajiahpaa

/- What a list of bytes is that a call builds in memory of its own, and the laws by which it grows and becomes a string. -/
namespace Go.Proofs.Ythlbokfajiahpaa
open Go.RowKit

theorem Try.info_u8 : (Try.prog.info? 5).map (fun i => (i.zero, i.size, i.bytes)) = some (some (.int .u8 0), 1, 1) := by kernel_rfl

/-- The bytes as the cells of a row. -/
def bytesV (l : List UInt8) : List Value := l.map fun c => .int .u8 (c.toNat : Int)

theorem bytesV_length (l : List UInt8) : (bytesV l).length = l.length := by simp [bytesV]

/-- The slice v holds the bytes l in memory that the call made itself (blocks from B on); below B all is as it was in w0. -/
structure Buf (B : Nat) (w0 w : World) (v : Value) (l : List UInt8) : Prop where
  own : w.ownsRow B 5 1 v l.length (bytesV l)
  bel : Below B w0 w
  le : B ≤ w.heap.size

theorem Buf.alloc {B : Nat} {w0 w : World} {v : Value} {l : List UInt8} (h : Buf B w0 w v l) (o : Obj) : Buf B w0 (w.alloc o) v l :=
  ⟨h.own.alloc o, h.bel.alloc h.le o, by have := h.le; simp; omega⟩

theorem Buf.drew {B : Nat} {w0 w : World} {v : Value} {l : List UInt8} (h : Buf B w0 w v l) : Buf B w0 w.drew v l :=
  ⟨h.own.drew, h.bel.drew, h.le⟩

/-- An append of the bytes that lie at ad. -/
theorem wpList_append_bytes {w0 w : World} {ops : Array Oper} {rest : List Oper} {o : Oper} {a : Act} {Q : Exit → Act → World → Prop} (hgd : o.guard = none) (s x : Operand)
    (ho : o.op = .call { callee := .builtin .append, args := #[s, x], argTypes := #[22, 22] })
    (B : Nat) (v : Value) (l : List UInt8) (hs : a.eval s = v) (hb : Buf B w0 w v l)
    (ad : Addr) (news : List UInt8) (c : Nat) (hx : a.eval x = .slice (some ad) news.length c)
    (hnews : ∀ j u, (bytesV news)[j]? = some u → w.cell? (ad.add j) = some u)
    (hlen : l.length + news.length ≤ 140737488355328)
    (h : ∀ v' w', Buf B w0 w' v' (l ++ news) → wpList Try.prog ops Q rest (a.put o.dst v') w') : wpList Try.prog ops Q (o :: rest) a w := by
  obtain ⟨i0, hi, hz0, hz1, hz2⟩ := info_parts Try.info_u8
  refine wpList_append_own _ hgd s x 22 ho B 5 i0 (.int .u8 0) 1 1 Try.underlying22 hi hz0 hz1 hz2 rfl (by decide) v l.length (bytesV l) hs hb.own ad news.length c (bytesV news) hx (by simp [bytesV]) hnews ?_ (by unfold maxLen; omega) (by omega) hb.le ?_
  · intro u hu
    simp only [bytesV, List.mem_map] at hu
    obtain ⟨c, _, rfl⟩ := hu
    rfl
  · intro v' w' hown hgrow _
    refine h v' w' ⟨?_, hb.bel.grown hgrow hb.le (fun k hk => (hb.own.lt k hk).1), Nat.le_trans hb.le hgrow.size⟩
    have e1 : (l ++ news).length = l.length + news.length := by simp
    have e2 : bytesV (l ++ news) = bytesV l ++ bytesV news := by simp [bytesV]
    rw [e1, e2]
    exact hown

/-- A slice over a new row of no bytes yet. -/
theorem Buf.fresh (w : World) (cur : Array Value) (cap : Nat) (hs : cur.size = cap) (hm : cap ≤ maxLen) :
    Buf w.heap.size w (w.alloc (.cells cur 5)) (.slice (some ⟨w.heap.size, 0, none⟩) 0 cap) [] :=
  ⟨World.ownsRow_made w cur cap (Nat.le_refl _) hm (by omega), (Below.refl _ _).alloc (Nat.le_refl _) _, by simp⟩

/-- The one cell of a new block, as an append asks for it. -/
theorem one_new (w : World) (x : Int) (b : UInt8) (h : x = (b.toNat : Int)) :
    ∀ j u, (bytesV [b])[j]? = some u → (w.alloc (.cells #[.int .u8 x] 5)).cell? ((⟨w.heap.size, 0, none⟩ : Addr).add j) = some u := by
  subst h
  intro j u hj
  match j, hj with
  | 0, hj => simp [bytesV] at hj; subst hj; simp [Addr.add]
  | j + 1, hj => simp [bytesV] at hj

/-- string(b) of such bytes. -/
theorem Buf.toString {B : Nat} {w0 w : World} {v : Value} {l : List UInt8} (h : Buf B w0 w v l) :
    (convert 22 9 v).run Try.prog w = .ok (.string ⟨l.toArray⟩) w := by
  rcases h.own.2 with ⟨rfl, h0⟩ | ⟨g, cap, cur, rfl, hg, hh, hnc, hcp, hcs, htake⟩
  · obtain rfl := List.length_eq_zero_iff.1 h0
    exact run_convert_bytes_nil (P := Try.prog) w 22 5 Try.underlying22 Try.underlying5 0 0 9 Try.underlying9
  · refine run_convert_bytes_back (P := Try.prog) w 22 9 5 ⟨g, 0, none⟩ cap l Try.underlying22 Try.underlying5 Try.underlying9 fun j hj => ?_
    rw [Addr.add_lit, Nat.zero_add, h.own.cellAt j (by omega)]
    simp [bytesV, hj]

end Go.Proofs.Ythlbokfajiahpaa

/- The bytes of a number: what spec.l01Var, spec.VarText and impl.VarText hand back. -/
namespace Go.Proofs.Ythlbokfajiahpaa
open Go.RowKit

set_option maxHeartbeats 400000 in
theorem l01Var_any (n : Nat) (w : World) (hn : n ≤ 1000000000) :
    Calls Try.prog 88 #[.int .i64 n] w fun e w' => e = .returned (.string ⟨(vt n).toArray⟩) ∧ Below w.heap.size w w' := by
  have hst := Buf.fresh w #[] 0 rfl (by decide)
  go_enter Try.func88, Try.ntmps88
  go_wp2
  go_loopw [0, 3] (fun nv v wr => ∃ (m : Nat) (acc : List UInt8), m ≤ n ∧ nv = .int .i64 m ∧ acc ++ vt m = vt n ∧ Buf w.heap.size w wr v acc) (fun nv _ _ => (intOf nv).toNat)
  case atStart => exact ⟨n, [], Nat.le_refl _, rfl, rfl, hst⟩
  case round =>
    obtain ⟨m, acc, hm, rfl, hv0, hb⟩ := hrel
    have hv : Hid (acc ++ vt m = vt n) := hv0
    have hacc := vt_acc hv0
    clear hv0
    by_cases hlt : 127 < m
    · go_wp2_with (at_builtin; refine wpList_append_bytes rfl _ _ rfl _ _ acc rfl (hb.alloc _) ⟨wr.heap.size, 0, none⟩ [hiByte m] 1 rfl ?c1 ?c2 ?_)
      case c1 => exact one_new _ _ _ (by rw [hiByte_toNat]; omega)
      case c2 => simp; omega
      intro v' w1 hb'
      go_wp2
      go_roundw
      case rel => exact ⟨m / 128, acc ++ [hiByte m], by omega, by go_num, vt_step hv.out hlt, hb'⟩
      case measure => simp [intOf]; omega
    · go_wp2_with (at_builtin; refine wpList_append_bytes rfl _ _ rfl _ _ acc rfl (hb.alloc _) ⟨wr.heap.size, 0, none⟩ [loByte m] 1 rfl ?d1 ?d2 ?_)
      case d1 => exact one_new _ _ _ (by rw [loByte_toNat (by omega)])
      case d2 => simp; omega
      intro v' w1 hb'
      have hcv := hb'.toString
      go_wp2
      go_ret
      exact ⟨by rw [vt_end hv.out (by omega)]; rfl, hb'.bel⟩

theorem l01In_any (x a b : Int) (w : World) :
    Calls Try.prog 56 #[.int .i64 x, .int .i64 a, .int .i64 b] w fun e w' => e = .returned (.bool (decide (a ≤ x) && decide (x ≤ b))) ∧ w' = w := by
  by_cases h1 : a ≤ x
  · by_cases h2 : x ≤ b
    all_goals
      go_enter Try.func56, Try.ntmps56
      go_wp2
      go_ret
      exact ⟨by simp [h1, h2], rfl⟩
  · have h3 : decide (a ≤ x) = false := decide_eq_false h1
    go_enter Try.func56, Try.ntmps56
    go_wp2
    go_ret
    exact ⟨by simp, rfl⟩

/-- What VarText hands back, of every number. -/
def varT (n : Int) : Value := if 0 ≤ n ∧ n ≤ 1000000000 then .tuple #[.string ⟨(vt n.toNat).toArray⟩, .bool true] else .tuple #[.string ⟨#[]⟩, .bool false]

theorem varT_yes {n : Int} (h : 0 ≤ n ∧ n ≤ 1000000000) : varT n = .tuple #[.string ⟨(vt n.toNat).toArray⟩, .bool true] := by rw [varT, if_pos h]
theorem varT_no {n : Int} (h : ¬ (0 ≤ n ∧ n ≤ 1000000000)) : varT n = .tuple #[.string ⟨#[]⟩, .bool false] := by rw [varT, if_neg h]


set_option maxHeartbeats 400000 in
theorem implVarText_any (n : Int) (w : World) :
    Calls Try.prog 48 #[.int .i64 n] w fun e w' => e = .returned (varT n) ∧ Below w.heap.size w w' := by
  by_cases h : 0 ≤ n ∧ n ≤ 1000000000
  · obtain ⟨k, rfl⟩ := Int.eq_ofNat_of_zero_le h.1
    have hk : k ≤ 1000000000 := by omega
    have hmk : ∀ w, (Instr.makeSlice 22 (.int .i64 0) (.int .i64 5)).run Try.prog w = .ok (.slice (some ⟨w.heap.size, 0, none⟩) 0 5) (w.alloc (.cells #[.int .u8 0, .int .u8 0, .int .u8 0, .int .u8 0, .int .u8 0] 5)) := fun _ => by kernel_rfl
    have hst := Buf.fresh w #[.int .u8 0, .int .u8 0, .int .u8 0, .int .u8 0, .int .u8 0] 5 rfl (by decide)
    go_enter Try.func48, Try.ntmps48
    go_wp2
    go_loopw [0, 4] (fun nv v wr => ∃ (m : Nat) (acc : List UInt8), m ≤ k ∧ nv = .int .i64 m ∧ acc ++ vt m = vt k ∧ Buf w.heap.size w wr v acc) (fun nv _ _ => (intOf nv).toNat)
    case atStart => exact ⟨k, [], Nat.le_refl _, rfl, rfl, hst⟩
    case round =>
      obtain ⟨m, acc, hm, rfl, hv0, hb⟩ := hrel
      have hv : Hid (acc ++ vt m = vt k) := hv0
      have hacc := vt_acc hv0
      clear hv0 hmk
      by_cases hlt : 127 < m
      · go_wp2_with (at_builtin; refine wpList_append_bytes rfl _ _ rfl _ _ acc rfl (hb.alloc _) ⟨wr.heap.size, 0, none⟩ [hiByte m] 1 rfl ?c1 ?c2 ?_)
        case c1 => exact one_new _ _ _ (by rw [u8_or128_right _ (by omega) (by omega), hiByte_toNat]; omega)
        case c2 => simp; omega
        intro v' w1 hb'
        go_wp2
        go_roundw
        case rel => exact ⟨m / 128, acc ++ [hiByte m], by omega, by go_num, vt_step hv.out hlt, hb'⟩
        case measure => simp [intOf]; omega
      · go_wp2_with (at_builtin; refine wpList_append_bytes rfl _ _ rfl _ _ acc rfl (hb.alloc _) ⟨wr.heap.size, 0, none⟩ [loByte m] 1 rfl ?d1 ?d2 ?_)
        case d1 => exact one_new _ _ _ (by rw [loByte_toNat (by omega)])
        case d2 => simp; omega
        intro v' w1 hb'
        have hcv := hb'.toString
        go_wp2
        go_ret2
        exact ⟨by simp [varT, h, vt_end hv.out (show m ≤ 127 by omega)], hb'.bel⟩
  · have h0 : (decide (n < 0) || decide (1000000000 < n)) = true := by
      simp only [Bool.or_eq_true, decide_eq_true_eq]
      omega
    by_cases h1 : n < 0
    all_goals
      go_enter Try.func48, Try.ntmps48
      go_wp2
      go_ret2
      exact ⟨by simp [varT, h], Below.refl _ _⟩

end Go.Proofs.Ythlbokfajiahpaa
