/- Records: what the program's readAnyRec and ReadRec hand back. -/
import Derived.Test.YtlifgcgoehkinaaDoorRecU
import Derived.Test.YtlifgcgoehkinaaDoorRecR
namespace Go.Proofs.YtlifgcgoehkinaaDoor
open Go.RowKit

/-- The numbers read one behind the other, and the texts. -/
def rdN (L : List UInt8) : Nat → Option (List Nat × Nat)
  | 0 => some ([], 1)
  | k + 1 => match rdN L k with
    | none => none
    | some (ns, p) => match rv L p with
      | none => none
      | some (n, q) => some (ns ++ [n], q)
def rdS (t : ByteArray) (d : Nat) : Nat → Option (List ByteArray × Nat)
  | 0 => some ([], d)
  | k + 1 => match rdS t d k with
    | none => none
    | some (xs, p) => match rsO t p with
      | none => none
      | some (x, q) => some (xs ++ [x], q)
theorem rdN_up {L : List UInt8} {k : Nat} (h : rdN L k = none) : ∀ m, rdN L (k + m) = none
  | 0 => h
  | m + 1 => by
    show rdN L (k + m + 1) = none
    rw [rdN, rdN_up h m]
theorem rdS_up {t : ByteArray} {d k : Nat} (h : rdS t d k = none) : ∀ m, rdS t d (k + m) = none
  | 0 => h
  | m + 1 => by
    show rdS t d (k + m + 1) = none
    rw [rdS, rdS_up h m]
theorem rdN_len {L : List UInt8} : ∀ {k : Nat} {ns : List Nat} {p : Nat}, rdN L k = some (ns, p) → ns.length = k
  | 0, ns, p, h => by cases h; rfl
  | k + 1, ns, p, h => by
    rw [rdN] at h
    split at h
    · cases h
    · rename_i ns' p' h'
      split at h
      · cases h
      · cases h
        have := rdN_len h'
        simp [this]
theorem rdS_len {t : ByteArray} {d : Nat} : ∀ {k : Nat} {xs : List ByteArray} {p : Nat}, rdS t d k = some (xs, p) → xs.length = k
  | 0, xs, p, h => by cases h; rfl
  | k + 1, xs, p, h => by
    rw [rdS] at h
    split at h
    · cases h
    · rename_i ns' p' h'
      split at h
      · cases h
      · cases h
        have := rdS_len h'
        simp [this]

/-- The fields that a text begins with, so read. -/
theorem prs_eq (t : ByteArray) (k : UInt8) (rest : List UInt8) (hk : t.data.toList = k :: rest) :
    prs t = match rdN t.data.toList 4 with
      | none => none
      | some (ns, d) => match rdS t d 3 with
        | none => none
        | some (xs, _) => some ⟨k.toNat, (ns.getD 0 0 : Nat), (ns.getD 1 0 : Nat), (ns.getD 2 0 : Nat), (ns.getD 3 0 : Nat), xs.getD 0 emp, xs.getD 1 emp, xs.getD 2 emp⟩ := by
  obtain ⟨L, hL⟩ : ∃ L, t.data.toList = L := ⟨_, rfl⟩
  unfold prs
  rw [hL]
  rw [hL] at hk
  rw [hk]
  simp only [rdN, rdS, ← hk]
  rcases h1 : rv L 1 with _ | ⟨v, a⟩
  · rfl
  simp only
  rcases h2 : rv L a with _ | ⟨u, b⟩
  · rfl
  simp only
  rcases h3 : rv L b with _ | ⟨n, c⟩
  · rfl
  simp only
  rcases h4 : rv L c with _ | ⟨f, d⟩
  · rfl
  simp only
  rcases h5 : rsO t d with _ | ⟨x, e⟩
  · rfl
  simp only
  rcases h6 : rsO t e with _ | ⟨y, g⟩
  · rfl
  simp only
  rcases h7 : rsO t g with _ | ⟨z, q⟩
  · rfl
  rfl

/-- The cells of the numbers and of the texts as far as they are read. -/
def numC (ns : List Nat) : Array Value := #[.int .i64 (ns.getD 0 0 : Nat), .int .i64 (ns.getD 1 0 : Nat), .int .i64 (ns.getD 2 0 : Nat), .int .i64 (ns.getD 3 0 : Nat)]
def txtC (xs : List ByteArray) : Array Value := #[.string (xs.getD 0 emp), .string (xs.getD 1 emp), .string (xs.getD 2 emp)]
theorem numC_put (ns : List Nat) (n : Nat) (h : ns.length < 4) : (numC ns).setIfInBounds ns.length (.int .i64 (n : Int)) = numC (ns ++ [n]) := by
  match ns, h with
  | [], _ => rfl
  | [a], _ => rfl
  | [a, b], _ => rfl
  | [a, b, c], _ => rfl
  | a :: b :: c :: d :: l, h => simp at h; omega
theorem txtC_put (xs : List ByteArray) (x : ByteArray) (h : xs.length < 3) : (txtC xs).setIfInBounds xs.length (.string x) = txtC (xs ++ [x]) := by
  match xs, h with
  | [], _ => rfl
  | [a], _ => rfl
  | [a, b], _ => rfl
  | a :: b :: c :: l, h => simp at h; omega
theorem numC_at (ns : List Nat) (k : Nat) (h : k < 4) : (numC ns)[k]? = some (.int .i64 (ns.getD k 0 : Nat)) := by
  rcases fourWays h with rfl | rfl | rfl | rfl <;> rfl
theorem txtC_at (xs : List ByteArray) (k : Nat) (h : k < 3) : (txtC xs)[k]? = some (.string (xs.getD k emp)) := by
  rcases threeWays h with rfl | rfl | rfl <;> rfl

/-- What readAnyRec hands back. -/
def raT (t : ByteArray) : Value := match prs t with
  | some r => .tuple #[r.v, .bool true]
  | none => .tuple #[Rc.nil.v, .bool false]
theorem raT_none {t : ByteArray} (h : prs t = none) : raT t = .tuple #[Rc.nil.v, .bool false] := by rw [raT, h]
theorem raT_some {t : ByteArray} {r : Rc} (h : prs t = some r) : raT t = .tuple #[r.v, .bool true] := by rw [raT, h]

theorem rs_way (t : ByteArray) (p : Nat) (hp : p ≤ t.size) :
    (rsO t p = none ∧ rsT t p = zeroS) ∨ ∃ (x : ByteArray) (q : Nat), rsO t p = some (x, q) ∧ rsT t p = .tuple #[.string x, .int .i64 q, .bool true] := by
  rcases h : rv t.data.toList p with _ | ⟨n, q⟩
  · exact .inl ⟨by simp [rsO, h], rsT_none hp h⟩
  · by_cases h2 : n ≤ 20000 ∧ n + q ≤ t.size
    · exact .inr ⟨t.extract q (q + n), q + n, by simp [rsO, h, h2], by rw [rsT_yes hp h h2, Int.natCast_add]⟩
    · exact .inl ⟨by simp [rsO, h, h2], rsT_no hp h h2⟩


end Go.Proofs.YtlifgcgoehkinaaDoor
