/- Texts of our own, joined. -/
import Derived.Test.YtieenkloiicnkaaGreatDoorJo
/- Right checks, plainly. -/
namespace Go.Proofs.YtieenkloiicnkaaGreatDoor

def numIn (n : Int) : Prop := 1 ≤ n ∧ n ≤ 1000000000
instance (n : Int) : Decidable (numIn n) := by unfold numIn; infer_instance
def rfAt (ng : Int) (rs : List Rf) (i : Nat) (r : Rf) : Prop :=
  (0 ≤ r.1 ∧ r.1 ≤ 10) ∧ (1 ≤ r.2 ∧ r.2 ≤ ng - 1) ∧ (∀ p, 0 < i → rs[i - 1]? = some p → p.2 < r.2) ∧ ∀ (k : Nat) (y : Rf), k < i → rs[k]? = some y → y.1 ≠ r.1
def Ck.ok (c : Ck) : Prop := (numIn c.st ∧ numIn c.ng ∧ numIn c.ns ∧ numIn c.nv) ∧ (1 ≤ c.refs.length ∧ c.refs.length ≤ 11) ∧ ∀ (i : Nat) (r : Rf), c.refs[i]? = some r → rfAt c.ng c.refs i r
noncomputable def ckB (c : Ck) : Bool := @decide c.ok (Classical.propDecidable _)
theorem ckB_yes {c : Ck} (h : c.ok) : ckB c = true := @decide_eq_true _ (Classical.propDecidable _) h
theorem ckB_no {c : Ck} (h : ¬ c.ok) : ckB c = false := @decide_eq_false _ (Classical.propDecidable _) h
theorem ckB_iff {c : Ck} : ckB c = true ↔ c.ok := ⟨fun h => @of_decide_eq_true _ (Classical.propDecidable _) h, ckB_yes⟩
theorem someC (p : Prop) : ∃ F : Bool, F = true ↔ p := ⟨@decide p (Classical.propDecidable _), by simp⟩

def hasR (l : List Rf) (k : Int) : Bool := l.any (fun y => decide (y.1 = k))
theorem hasR_take {u : List Rf} {i : Nat} {s : Rf} (h : u[i]? = some s) (n : Int) : hasR (u.take (i + 1)) n = (hasR (u.take i) n || decide (s.1 = n)) := by
  unfold hasR
  rw [List.take_add_one, h, List.any_append]
  simp
theorem hasR_iff {rs : List Rf} {i : Nat} {n : Int} : hasR (rs.take i) n = true ↔ ∃ (k : Nat) (y : Rf), k < i ∧ rs[k]? = some y ∧ y.1 = n := by
  unfold hasR
  rw [List.any_eq_true]
  constructor
  · rintro ⟨y, hy, hd⟩
    obtain ⟨k, hk⟩ := List.getElem?_of_mem hy
    have hl := (List.getElem?_eq_some_iff.1 hk).1
    rw [List.length_take] at hl
    rw [List.getElem?_take] at hk
    split at hk
    · exact ⟨k, y, by omega, hk, of_decide_eq_true hd⟩
    · cases hk
  · rintro ⟨k, y, hk, hy, he⟩
    refine ⟨y, List.mem_of_getElem? (i := k) ?_, decide_eq_true he⟩
    rw [List.getElem?_take, if_pos hk]
    exact hy

theorem rfAt_of {ng : Int} {rs : List Rf} {i : Nat} {r : Rf} {last : Int} (h1 : ∀ p, 0 < i → rs[i - 1]? = some p → last = p.2) (h2 : 0 ≤ last)
    (a : ¬ r.2 ≤ last) (b : ¬ ng ≤ r.2) (c : 0 ≤ r.1 ∧ r.1 ≤ 10) (d : hasR (rs.take i) r.1 = false) : rfAt ng rs i r :=
  ⟨c, ⟨by omega, by omega⟩, fun p hp hg => by have := h1 p hp hg; omega, fun k y hk hy he => by
    have := hasR_iff.2 ⟨k, y, hk, hy, he⟩
    rw [d] at this
    cases this⟩
theorem rfAt_not {ng : Int} {rs : List Rf} {i : Nat} {r : Rf} {last : Int} (hi : i ≤ rs.length) (h0 : i = 0 → last = 0) (h1 : ∀ p, 0 < i → rs[i - 1]? = some p → last = p.2) (h : rfAt ng rs i r) :
    ¬ r.2 ≤ last ∧ ¬ ng ≤ r.2 ∧ (0 ≤ r.1 ∧ r.1 ≤ 10) ∧ hasR (rs.take i) r.1 = false := by
  obtain ⟨a, b, c, d⟩ := h
  refine ⟨?_, by omega, a, ?_⟩
  · rcases Nat.eq_zero_or_pos i with hz | hp
    · have := h0 hz; omega
    · obtain ⟨p, hg⟩ : ∃ p, rs[i - 1]? = some p := ⟨_, List.getElem?_eq_getElem (by omega)⟩
      have := h1 p hp hg
      have := c p hp hg
      omega
  · cases he : hasR (rs.take i) r.1 with
    | false => rfl
    | true =>
      obtain ⟨k, y, hk, hy, e⟩ := hasR_iff.1 he
      exact absurd e (d k y hk hy)

theorem Rows'.takeR {α : Type} {E : Enc α} {w : World} {ad : Option Addr} {n cap : Nat} {l : List α} (h : Rows' E w (.slice ad n cap) l) (i : Nat) (hi : i ≤ n) : Rows' E w (.slice ad i cap) (l.take i) := by
  rcases h with ⟨rfl, a, c, e⟩ | ⟨g, off, c, e, hc, hg, hcl⟩
  · cases e
    obtain rfl : i = 0 := by omega
    exact .inl ⟨by simp, _, _, rfl⟩
  · cases e
    refine .inr ⟨g, off, cap, ?_, ?_, hg, fun j x hj k u hk => ?_⟩
    · rw [List.length_take, Nat.min_eq_left hi]
    · rw [List.length_take]; omega
    · rw [List.getElem?_take] at hj
      split at hj
      · exact hcl j x hj k u hk
      · cases hj

end Go.Proofs.YtieenkloiicnkaaGreatDoor
