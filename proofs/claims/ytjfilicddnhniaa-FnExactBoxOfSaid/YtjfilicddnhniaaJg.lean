/- Texts of our own, joined. -/
import Derived.Test.YtjfilicddnhniaaJd
import Derived.Test.YtjfilicddnhniaaJe
import Derived.Laws.StructEq
import Derived.Test.YtjfilicddnhniaaJa
import Derived.Maps.AppendAt
import Derived.Lib.Hide
/- Right items, plainly: as they are gone through. -/
namespace Go.Proofs.Ytjfilicddnhniaa

theorem upOf_take {f : Itm → Option Int} {l : List Itm} {i : Nat} {x : Itm} (h : l[i]? = some x) : upOf f (l.take (i + 1)) = match f x with | some n => insI (upOf f (l.take i)) n | none => upOf f (l.take i) := by
  unfold upOf
  rw [List.take_add_one, h, List.foldl_append]
  rfl
theorem insI_len (l : List Int) (x : Int) : (insI l x).length ≤ l.length + 1 := by
  unfold insI
  rw [List.length_append, List.length_cons]
  have h : ∀ l : List Int, (l.filter (fun y => decide (y < x))).length + (l.filter (fun y => decide (x < y))).length ≤ l.length := by
    intro l
    induction l with
    | nil => simp
    | cons y l ih =>
      simp only [List.filter_cons, List.length_cons]
      by_cases h1 : y < x
      · have h2 : ¬ x < y := by omega
        simp [h1, h2]; omega
      · by_cases h2 : x < y
        · simp [h1, h2]; omega
        · simp [h1, h2]; omega
  have := h l
  omega
theorem upOf_len (f : Itm → Option Int) (l : List Itm) : ∀ i, (upOf f (l.take i)).length ≤ i
  | 0 => by simp [upOf]
  | i + 1 => by
    have ih := upOf_len f l i
    cases h : l[i]? with
    | none =>
      have h2 : l.take (i + 1) = l.take i := by rw [List.take_add_one, h]; simp
      rw [h2]; omega
    | some x =>
      rw [upOf_take h]
      split
      · have := insI_len (upOf f (l.take i)) ‹Int›; omega
      · omega

/-- An item that is right by itself. -/
def itOk (x : Itm) : Prop := (1 ≤ x.1 ∧ x.1 ≤ 1000000000) ∧ x.2.ok
/-- The first i are right, and no two of them part. -/
def ItG (l : List Itm) (i : Nat) : Prop := (∀ (j : Nat) (x : Itm), l[j]? = some x → j < i → itOk x) ∧ ∀ (j k : Nat) (x y : Itm), l[j]? = some x → l[k]? = some y → j < k → k < i → x.1 = y.1 → x = y
noncomputable instance decItemsOk (l : List Itm) : Decidable (itemsOk l) := Classical.propDecidable _

theorem ItG.zero (l : List Itm) : ItG l 0 := ⟨fun _ _ _ h => by omega, fun _ _ _ _ _ _ _ h => by omega⟩
theorem ItG.next {l : List Itm} {i : Nat} {x : Itm} (h : ItG l i) (hx : l[i]? = some x) (hok : itOk x) (hd : ∀ (j : Nat) (y : Itm), l[j]? = some y → j < i → y.1 = x.1 → y = x) : ItG l (i + 1) := by
  refine ⟨fun j y hy hj => ?_, fun j k y z hy hz hjk hk e => ?_⟩
  · by_cases e : j = i
    · subst e; rw [hx] at hy; cases hy; exact hok
    · exact h.1 j y hy (by omega)
  · by_cases e2 : k = i
    · subst e2; rw [hx] at hz; cases hz; exact hd j y hy hjk e
    · exact h.2 j k y z hy hz hjk (by omega) e
theorem ItG.done {l : List Itm} (h : ItG l l.length) : decide (itemsOk l) = decide (l.length ≤ 200) := by
  apply decide_eq_decide.2
  constructor
  · exact fun c => c.2.2
  · intro hl
    refine ⟨fun x hx => ?_, fun x hx y hy e => ?_, hl⟩
    · obtain ⟨j, hj, rfl⟩ := List.getElem_of_mem hx
      exact h.1 j _ (List.getElem?_eq_getElem hj) hj
    · obtain ⟨j, hj, rfl⟩ := List.getElem_of_mem hx
      obtain ⟨k, hk, rfl⟩ := List.getElem_of_mem hy
      rcases Nat.lt_trichotomy j k with c | c | c
      · exact h.2 j k _ _ (List.getElem?_eq_getElem hj) (List.getElem?_eq_getElem hk) c hk e
      · subst c; rfl
      · exact (h.2 k j _ _ (List.getElem?_eq_getElem hk) (List.getElem?_eq_getElem hj) c hj e.symm).symm
theorem items_bad {l : List Itm} {i : Nat} {x : Itm} (hx : l[i]? = some x) (h : ¬ itOk x) : decide (itemsOk l) = false :=
  decide_eq_false fun c => h (c.1 x (List.mem_of_getElem? hx))
theorem items_part {l : List Itm} {j i : Nat} {x y : Itm} (hx : l[j]? = some x) (hy : l[i]? = some y) (e : x.1 = y.1) (h : x ≠ y) : decide (itemsOk l) = false :=
  decide_eq_false fun c => h (c.2.1 x (List.mem_of_getElem? hx) y (List.mem_of_getElem? hy) e)

end Go.Proofs.Ytjfilicddnhniaa

/- What records tell: the model's ItemsOk. -/
namespace Go.Proofs.Ytjfilicddnhniaa
open Go.RowKit

theorem ba_same (a b : ByteArray) : a.toList = b.toList ↔ a = b := by
  have h := ba_beq a b
  constructor
  · intro e
    rw [beq_iff_eq.2 e] at h
    exact of_decide_eq_true h.symm
  · intro e; rw [e]

/-- A list of items that can be read, as a loop reads it. -/
def ItRow (w : World) (ad : Option Addr) (l : List Itm) : Prop := ∀ X, Below w.heap.size w X → ∀ i x, l[i]? = some x → ∃ g off, ad = some ⟨g, off, none⟩ ∧ X.cell? ⟨g, off + i * 9, none⟩ = some (.int .i64 x.1) ∧ X.cell? ⟨g, off + i * 9 + 1, none⟩ = some (.int .i64 x.2.kind) ∧ X.cell? ⟨g, off + i * 9 + 2, none⟩ = some (.int .i64 x.2.valid) ∧ X.cell? ⟨g, off + i * 9 + 3, none⟩ = some (.int .i64 x.2.uid) ∧ X.cell? ⟨g, off + i * 9 + 4, none⟩ = some (.int .i64 x.2.next) ∧ X.cell? ⟨g, off + i * 9 + 5, none⟩ = some (.int .i64 x.2.flags) ∧ X.cell? ⟨g, off + i * 9 + 6, none⟩ = some (.string x.2.user) ∧ X.cell? ⟨g, off + i * 9 + 7, none⟩ = some (.string x.2.name) ∧ X.cell? ⟨g, off + i * 9 + 8, none⟩ = some (.string x.2.text)
theorem Rows'.items {w : World} {v : Value} {l : List Itm} (h : Rows' itE w v l) : ∃ (ad : Option Addr) (cap : Nat), v = .slice ad l.length cap ∧ ItRow w ad l := by
  rcases h.ways with ⟨rfl, a, c, rfl⟩ | ⟨hne, g, off, c, rfl, hc, hg, hcl⟩
  · exact ⟨a, c, rfl, fun X _ i x hi => by cases hi⟩
  · exact ⟨_, c, rfl, fun X hb i x hi => ⟨g, off, rfl, it_cells hcl hg hb i x hi⟩⟩

set_option maxRecDepth 100000 in
set_option maxHeartbeats 4000000 in
theorem specItemsOk_any (l : List Itm) (v : Value) (w : World) (h : Rows' itE w v l) (hl : l.length ≤ 1099511627776) (hsz : ∀ x ∈ l, x.2.user.size ≤ 1099511627776 ∧ x.2.name.size ≤ 1099511627776 ∧ x.2.text.size ≤ 1099511627776) :
    Calls Try.prog 21 #[v] w fun e w' => e = .returned (.bool (decide (itemsOk l))) ∧ Below w.heap.size w w' := by
  obtain ⟨ad, cap, rfl, hrow⟩ := h.items
  have HR := Lib.hid hrow
  have HZ := Lib.hid hsz
  clear h hrow hsz
  obtain ⟨D, hD⟩ : ∃ D, decide (itemsOk l) = D := ⟨_, rfl⟩
  have HD := Lib.hid hD
  rw [hD]
  clear hD
  go_enter Try.func21, Try.ntmps21
  go_wp2
  go_loopw [3] (fun iv wr => ∃ i : Nat, i ≤ l.length ∧ iv = .int .i64 (i : Int) ∧ ItG l i ∧ Below w.heap.size w wr) (fun iv _ => l.length - (intOf iv).toNat)
  case atStart => exact ⟨0, by omega, rfl, ItG.zero l, Below.refl _ _⟩
  case round =>
    obtain ⟨i, hi, rfl, hG, hb⟩ := hrel
    have HG := Lib.hid hG
    clear hG
    by_cases hlt : i < l.length
    · have hgx : l[i]? = some l[i] := List.getElem?_eq_getElem hlt
      have hzx := HZ.out l[i] (List.getElem_mem hlt)
      obtain ⟨ga, oa, rfl, a0, a1, a2, a3, a4, a5, a6, a7, a8⟩ := HR.out _ hb i _ hgx
      obtain ⟨x, hx⟩ : ∃ x, l[i] = x := ⟨_, rfl⟩
      rw [hx] at hgx hzx a0 a1 a2 a3 a4 a5 a6 a7 a8
      clear hx
      have HX := Lib.hid hgx
      obtain ⟨sq, K, V, U, N, FL, US, NM, TX⟩ := x
      simp only at a0 a1 a2 a3 a4 a5 a6 a7 a8 hzx
      have hi0 : (0 : Int) ≤ (i : Int) := by omega
      have hi1 : (i : Int) < (l.length : Int) := by omega
      clear hgx
      by_cases hs : 1 ≤ sq ∧ sq ≤ 1000000000
      · obtain ⟨hs1, hs2⟩ := hs
        have hRO := fun wx => specRecOk_any ⟨K, V, U, N, FL, US, NM, TX⟩ wx hzx.1 hzx.2.1 hzx.2.2
        by_cases hok : (⟨K, V, U, N, FL, US, NM, TX⟩ : Rc).ok
        · rw [decide_eq_true hok] at hRO
          have HOK : Hid (itOk (sq, ⟨K, V, U, N, FL, US, NM, TX⟩)) := ⟨⟨hs1, hs2⟩, hok⟩
          unfold Rc.v at hRO
          simp only at hRO
          have HRO := Lib.hid hRO
          clear hRO hok
          go_wp2_with (first | (go_at_call 51; refine (l01In_yes _ _ _ _ hs1 hs2).mono ?_; rintro e w5 ⟨rfl, rfl⟩) | (go_at_call 52; refine (HRO.out _).mono ?_; rintro e w6 ⟨rfl, k6⟩))
          have b6 := hb.trans (k6.mono hb.size)
          clear a0 a1 a2 a3 a4 a5 a6 a7 a8 k6 hb HRO hzx hs1 hs2
          go_loopw [4] (fun kv wr2 => ∃ k : Nat, k ≤ i ∧ kv = .int .i64 (k : Int) ∧ (∀ (j : Nat) (y : Itm), l[j]? = some y → j < k → y.1 = sq → y = (sq, ⟨K, V, U, N, FL, US, NM, TX⟩)) ∧ Below w.heap.size w wr2) (fun kv _ => i - (intOf kv).toNat)
          case atStart => exact ⟨0, by omega, rfl, fun j y _ hj => by omega, b6⟩
          case round =>
            obtain ⟨k, hk, rfl, hU, hb⟩ := hrel
            have HU := Lib.hid hU
            clear hU b6
            by_cases hlk : k < i
            · have hgy : l[k]? = some (l[k]'(by omega)) := List.getElem?_eq_getElem (by omega)
              obtain ⟨ga2, oa2, he, c0, c1, c2, c3, c4, c5, c6, c7, c8⟩ := HR.out _ (hb.trans ((Below.refl wr.heap.size wr).drew.mono hb.size)) k _ hgy
              cases he
              obtain ⟨ga3, oa3, he, a0, a1, a2, a3, a4, a5, a6, a7, a8⟩ := HR.out _ (hb.trans ((Below.refl wr.heap.size wr).drew.mono hb.size)) i _ HX.out
              cases he
              obtain ⟨y, hy⟩ : ∃ y, l[k]'(by omega) = y := ⟨_, rfl⟩
              rw [hy] at hgy c0 c1 c2 c3 c4 c5 c6 c7 c8
              clear hy
              have HY := Lib.hid hgy
              obtain ⟨sq2, K2, V2, U2, N2, FL2, US2, NM2, TX2⟩ := y
              simp only at a0 a1 a2 a3 a4 a5 a6 a7 a8 c0 c1 c2 c3 c4 c5 c6 c7 c8
              have hk0 : (0 : Int) ≤ (k : Int) := by omega
              have hk1 : (k : Int) < (l.length : Int) := by omega
              have hk2 : (k : Int) < (i : Int) := by omega
              clear hgy
              have bD : Below w.heap.size w wr.drew := hb.trans ((Below.refl wr.heap.size wr).drew.mono hb.size)
              clear hb
              by_cases hq : sq2 = sq
              · subst hq
                by_cases hsame : K2 = K ∧ V2 = V ∧ U2 = U ∧ N2 = N ∧ FL2 = FL ∧ US2 = US ∧ NM2 = NM ∧ TX2 = TX
                · obtain ⟨rfl, rfl, rfl, rfl, rfl, rfl, rfl, rfl⟩ := hsame
                  go_wp2_with fail
                  refine wp_region_held_drew (S := fun x => wr.drew = x) (by kernel_rfl) rfl (fun hHeld => ?_)
                  refine takeL (i := 0) (v := .slice (some ⟨ga, oa, none⟩) l.length cap) rfl (by kernel_rfl) (by kernel_rfl) (by kernel_rfl) (fun _ _ _ h => h) (Or.inl ⟨by rfl, ?_⟩) (by assumption) ?_
                  · intro x hSx; subst hSx; go_simp
                  try simp only [Act.put, List.setIfInBounds_toArray, List.set_cons_zero, List.set_cons_succ]
                  refine takeL (i := 1) (v := .int .i64 (k : Int)) rfl (by kernel_rfl) (by kernel_rfl) (by kernel_rfl) (fun _ _ _ h => h) (Or.inl ⟨by rfl, ?_⟩) (by assumption) ?_
                  · intro x hSx; subst hSx; go_simp
                  try simp only [Act.put, List.setIfInBounds_toArray, List.set_cons_zero, List.set_cons_succ]
                  refine takeL (i := 2) (v := .pointer (some ⟨ga, oa + k * 9, none⟩)) rfl (by kernel_rfl) (by kernel_rfl) (by kernel_rfl) (fun _ _ _ h => h) (Or.inl ⟨by rfl, ?_⟩) (by assumption) ?_
                  · intro x hSx; subst hSx; go_simp
                  try simp only [Act.put, List.setIfInBounds_toArray, List.set_cons_zero, List.set_cons_succ]
                  refine takeL (i := 3) (v := .pointer (some ⟨ga, oa + k * 9, none⟩)) rfl (by kernel_rfl) (by kernel_rfl) (by kernel_rfl) (fun _ _ _ h => h) (Or.inl ⟨by rfl, ?_⟩) (by assumption) ?_
                  · intro x hSx; subst hSx; go_simp
                  try simp only [Act.put, List.setIfInBounds_toArray, List.set_cons_zero, List.set_cons_succ]
                  refine takeL (i := 4) (v := .int .i64 sq2) rfl (by kernel_rfl) (by kernel_rfl) (by kernel_rfl) (fun _ _ _ h => h) (Or.inl ⟨by rfl, ?_⟩) (by assumption) ?_
                  · intro x hSx; subst hSx; go_simp
                  try simp only [Act.put, List.setIfInBounds_toArray, List.set_cons_zero, List.set_cons_succ]
                  refine takeL (i := 5) (v := .slice (some ⟨ga, oa, none⟩) l.length cap) rfl (by kernel_rfl) (by kernel_rfl) (by kernel_rfl) (fun _ _ _ h => h) (Or.inl ⟨by rfl, ?_⟩) (by assumption) ?_
                  · intro x hSx; subst hSx; go_simp
                  try simp only [Act.put, List.setIfInBounds_toArray, List.set_cons_zero, List.set_cons_succ]
                  refine takeL (i := 6) (v := .int .i64 (i : Int)) rfl (by kernel_rfl) (by kernel_rfl) (by kernel_rfl) (fun _ _ _ h => h) (Or.inl ⟨by rfl, ?_⟩) (by assumption) ?_
                  · intro x hSx; subst hSx; go_simp
                  try simp only [Act.put, List.setIfInBounds_toArray, List.set_cons_zero, List.set_cons_succ]
                  refine takeL (i := 7) (v := .pointer (some ⟨ga, oa + i * 9, none⟩)) rfl (by kernel_rfl) (by kernel_rfl) (by kernel_rfl) (fun _ _ _ h => h) (Or.inl ⟨by rfl, ?_⟩) (by assumption) ?_
                  · intro x hSx; subst hSx; go_simp
                  try simp only [Act.put, List.setIfInBounds_toArray, List.set_cons_zero, List.set_cons_succ]
                  refine takeL (i := 8) (v := .pointer (some ⟨ga, oa + i * 9, none⟩)) rfl (by kernel_rfl) (by kernel_rfl) (by kernel_rfl) (fun _ _ _ h => h) (Or.inl ⟨by rfl, ?_⟩) (by assumption) ?_
                  · intro x hSx; subst hSx; go_simp
                  try simp only [Act.put, List.setIfInBounds_toArray, List.set_cons_zero, List.set_cons_succ]
                  refine takeL (i := 9) (v := .int .i64 sq2) rfl (by kernel_rfl) (by kernel_rfl) (by kernel_rfl) (fun _ _ _ h => h) (Or.inl ⟨by rfl, ?_⟩) (by assumption) ?_
                  · intro x hSx; subst hSx; go_simp
                  try simp only [Act.put, List.setIfInBounds_toArray, List.set_cons_zero, List.set_cons_succ]
                  refine takeL (i := 10) (v := .bool true) rfl (by kernel_rfl) (by kernel_rfl) (by kernel_rfl) (fun _ _ _ h => h) (Or.inl ⟨by rfl, ?_⟩) (by assumption) ?_
                  · intro x hSx; subst hSx; go_simp
                  try simp only [Act.put, List.setIfInBounds_toArray, List.set_cons_zero, List.set_cons_succ]
                  refine takeL (i := 11) (v := .bool true) rfl (by kernel_rfl) (by kernel_rfl) (by kernel_rfl) (fun _ _ _ h => h) (Or.inl ⟨by rfl, ?_⟩) (by assumption) ?_
                  · intro x hSx; subst hSx; go_simp
                  try simp only [Act.put, List.setIfInBounds_toArray, List.set_cons_zero, List.set_cons_succ]
                  refine takeL (i := 12) (v := .slice (some ⟨ga, oa, none⟩) l.length cap) rfl (by kernel_rfl) (by kernel_rfl) (by kernel_rfl) (fun _ _ _ h => h) (Or.inl ⟨by rfl, ?_⟩) (by assumption) ?_
                  · intro x hSx; subst hSx; go_simp
                  try simp only [Act.put, List.setIfInBounds_toArray, List.set_cons_zero, List.set_cons_succ]
                  refine takeL (i := 13) (v := .int .i64 (k : Int)) rfl (by kernel_rfl) (by kernel_rfl) (by kernel_rfl) (fun _ _ _ h => h) (Or.inl ⟨by rfl, ?_⟩) (by assumption) ?_
                  · intro x hSx; subst hSx; go_simp
                  try simp only [Act.put, List.setIfInBounds_toArray, List.set_cons_zero, List.set_cons_succ]
                  refine takeL (i := 14) (v := .pointer (some ⟨ga, oa + k * 9, none⟩)) rfl (by kernel_rfl) (by kernel_rfl) (by kernel_rfl) (fun _ _ _ h => h) (Or.inl ⟨by rfl, ?_⟩) (by assumption) ?_
                  · intro x hSx; subst hSx; go_simp
                  try simp only [Act.put, List.setIfInBounds_toArray, List.set_cons_zero, List.set_cons_succ]
                  refine takeL (i := 15) (v := .agg #[.int .i64 sq2, .int .i64 K2, .int .i64 V2, .int .i64 U2, .int .i64 N2, .int .i64 FL2, .string US2, .string NM2, .string TX2]) rfl (by kernel_rfl) (by kernel_rfl) (by kernel_rfl) (fun _ _ _ h => h) (Or.inl ⟨by rfl, ?_⟩) (by assumption) ?_
                  · intro x hSx; subst hSx; go_simp
                  try simp only [Act.put, List.setIfInBounds_toArray, List.set_cons_zero, List.set_cons_succ]
                  refine takeL (i := 16) (v := .slice (some ⟨ga, oa, none⟩) l.length cap) rfl (by kernel_rfl) (by kernel_rfl) (by kernel_rfl) (fun _ _ _ h => h) (Or.inl ⟨by rfl, ?_⟩) (by assumption) ?_
                  · intro x hSx; subst hSx; go_simp
                  try simp only [Act.put, List.setIfInBounds_toArray, List.set_cons_zero, List.set_cons_succ]
                  refine takeL (i := 17) (v := .int .i64 (i : Int)) rfl (by kernel_rfl) (by kernel_rfl) (by kernel_rfl) (fun _ _ _ h => h) (Or.inl ⟨by rfl, ?_⟩) (by assumption) ?_
                  · intro x hSx; subst hSx; go_simp
                  try simp only [Act.put, List.setIfInBounds_toArray, List.set_cons_zero, List.set_cons_succ]
                  refine takeL (i := 18) (v := .pointer (some ⟨ga, oa + i * 9, none⟩)) rfl (by kernel_rfl) (by kernel_rfl) (by kernel_rfl) (fun _ _ _ h => h) (Or.inl ⟨by rfl, ?_⟩) (by assumption) ?_
                  · intro x hSx; subst hSx; go_simp
                  try simp only [Act.put, List.setIfInBounds_toArray, List.set_cons_zero, List.set_cons_succ]
                  refine takeL (i := 19) (v := .agg #[.int .i64 sq2, .int .i64 K2, .int .i64 V2, .int .i64 U2, .int .i64 N2, .int .i64 FL2, .string US2, .string NM2, .string TX2]) rfl (by kernel_rfl) (by kernel_rfl) (by kernel_rfl) (fun _ _ _ h => h) (Or.inl ⟨by rfl, ?_⟩) (by assumption) ?_
                  · intro x hSx; subst hSx; go_simp
                  try simp only [Act.put, List.setIfInBounds_toArray, List.set_cons_zero, List.set_cons_succ]
                  refine takeL (i := 20) (v := .bool false) rfl (by kernel_rfl) (by kernel_rfl) (by kernel_rfl) (fun _ _ _ h => h) (Or.inl ⟨by rfl, ?_⟩) (by assumption) ?_
                  · intro x hSx; subst hSx; go_simp
                  try simp only [Act.put, List.setIfInBounds_toArray, List.set_cons_zero, List.set_cons_succ]
                  refine takeL (i := 21) (v := .bool false) rfl (by kernel_rfl) (by kernel_rfl) (by kernel_rfl) (fun _ _ _ h => h) (Or.inl ⟨by rfl, ?_⟩) (by assumption) ?_
                  · intro x hSx; subst hSx; go_simp
                  try simp only [Act.put, List.setIfInBounds_toArray, List.set_cons_zero, List.set_cons_succ]
                  refine wpAnyH_done (by kernel_rfl) ?_ _
                  go_wp2
                  exact ⟨⟨k + 1, by omega, by go_num, fun j y hj hjk e => by
                    by_cases c : j = k
                    · subst c; have := HY.out; rw [hj] at this; cases this; rfl
                    · exact HU.out j y hj (by omega) e, bD⟩, by first | omega | (simp [intOf]; omega)⟩
                · have HE : Hid (D = false) := by
                    rw [← HD.out]
                    exact items_part HY.out HX.out rfl (fun e => hsame (by cases e; exact ⟨rfl, rfl, rfl, rfl, rfl, rfl, rfl, rfl⟩))
                  have HNE := Lib.hid hsame
                  clear hsame
                  go_wp2_with fail
                  refine wp_region_held_drew (S := fun x => wr.drew = x) (by kernel_rfl) rfl (fun hHeld => ?_)
                  refine takeL (i := 0) (v := .slice (some ⟨ga, oa, none⟩) l.length cap) rfl (by kernel_rfl) (by kernel_rfl) (by kernel_rfl) (fun _ _ _ h => h) (Or.inl ⟨by rfl, ?_⟩) (by assumption) ?_
                  · intro x hSx; subst hSx; go_simp
                  try simp only [Act.put, List.setIfInBounds_toArray, List.set_cons_zero, List.set_cons_succ]
                  refine takeL (i := 1) (v := .int .i64 (k : Int)) rfl (by kernel_rfl) (by kernel_rfl) (by kernel_rfl) (fun _ _ _ h => h) (Or.inl ⟨by rfl, ?_⟩) (by assumption) ?_
                  · intro x hSx; subst hSx; go_simp
                  try simp only [Act.put, List.setIfInBounds_toArray, List.set_cons_zero, List.set_cons_succ]
                  refine takeL (i := 2) (v := .pointer (some ⟨ga, oa + k * 9, none⟩)) rfl (by kernel_rfl) (by kernel_rfl) (by kernel_rfl) (fun _ _ _ h => h) (Or.inl ⟨by rfl, ?_⟩) (by assumption) ?_
                  · intro x hSx; subst hSx; go_simp
                  try simp only [Act.put, List.setIfInBounds_toArray, List.set_cons_zero, List.set_cons_succ]
                  refine takeL (i := 3) (v := .pointer (some ⟨ga, oa + k * 9, none⟩)) rfl (by kernel_rfl) (by kernel_rfl) (by kernel_rfl) (fun _ _ _ h => h) (Or.inl ⟨by rfl, ?_⟩) (by assumption) ?_
                  · intro x hSx; subst hSx; go_simp
                  try simp only [Act.put, List.setIfInBounds_toArray, List.set_cons_zero, List.set_cons_succ]
                  refine takeL (i := 4) (v := .int .i64 sq2) rfl (by kernel_rfl) (by kernel_rfl) (by kernel_rfl) (fun _ _ _ h => h) (Or.inl ⟨by rfl, ?_⟩) (by assumption) ?_
                  · intro x hSx; subst hSx; go_simp
                  try simp only [Act.put, List.setIfInBounds_toArray, List.set_cons_zero, List.set_cons_succ]
                  refine takeL (i := 5) (v := .slice (some ⟨ga, oa, none⟩) l.length cap) rfl (by kernel_rfl) (by kernel_rfl) (by kernel_rfl) (fun _ _ _ h => h) (Or.inl ⟨by rfl, ?_⟩) (by assumption) ?_
                  · intro x hSx; subst hSx; go_simp
                  try simp only [Act.put, List.setIfInBounds_toArray, List.set_cons_zero, List.set_cons_succ]
                  refine takeL (i := 6) (v := .int .i64 (i : Int)) rfl (by kernel_rfl) (by kernel_rfl) (by kernel_rfl) (fun _ _ _ h => h) (Or.inl ⟨by rfl, ?_⟩) (by assumption) ?_
                  · intro x hSx; subst hSx; go_simp
                  try simp only [Act.put, List.setIfInBounds_toArray, List.set_cons_zero, List.set_cons_succ]
                  refine takeL (i := 7) (v := .pointer (some ⟨ga, oa + i * 9, none⟩)) rfl (by kernel_rfl) (by kernel_rfl) (by kernel_rfl) (fun _ _ _ h => h) (Or.inl ⟨by rfl, ?_⟩) (by assumption) ?_
                  · intro x hSx; subst hSx; go_simp
                  try simp only [Act.put, List.setIfInBounds_toArray, List.set_cons_zero, List.set_cons_succ]
                  refine takeL (i := 8) (v := .pointer (some ⟨ga, oa + i * 9, none⟩)) rfl (by kernel_rfl) (by kernel_rfl) (by kernel_rfl) (fun _ _ _ h => h) (Or.inl ⟨by rfl, ?_⟩) (by assumption) ?_
                  · intro x hSx; subst hSx; go_simp
                  try simp only [Act.put, List.setIfInBounds_toArray, List.set_cons_zero, List.set_cons_succ]
                  refine takeL (i := 9) (v := .int .i64 sq2) rfl (by kernel_rfl) (by kernel_rfl) (by kernel_rfl) (fun _ _ _ h => h) (Or.inl ⟨by rfl, ?_⟩) (by assumption) ?_
                  · intro x hSx; subst hSx; go_simp
                  try simp only [Act.put, List.setIfInBounds_toArray, List.set_cons_zero, List.set_cons_succ]
                  refine takeL (i := 10) (v := .bool true) rfl (by kernel_rfl) (by kernel_rfl) (by kernel_rfl) (fun _ _ _ h => h) (Or.inl ⟨by rfl, ?_⟩) (by assumption) ?_
                  · intro x hSx; subst hSx; go_simp
                  try simp only [Act.put, List.setIfInBounds_toArray, List.set_cons_zero, List.set_cons_succ]
                  refine takeL (i := 11) (v := .bool true) rfl (by kernel_rfl) (by kernel_rfl) (by kernel_rfl) (fun _ _ _ h => h) (Or.inl ⟨by rfl, ?_⟩) (by assumption) ?_
                  · intro x hSx; subst hSx; go_simp
                  try simp only [Act.put, List.setIfInBounds_toArray, List.set_cons_zero, List.set_cons_succ]
                  refine takeL (i := 12) (v := .slice (some ⟨ga, oa, none⟩) l.length cap) rfl (by kernel_rfl) (by kernel_rfl) (by kernel_rfl) (fun _ _ _ h => h) (Or.inl ⟨by rfl, ?_⟩) (by assumption) ?_
                  · intro x hSx; subst hSx; go_simp
                  try simp only [Act.put, List.setIfInBounds_toArray, List.set_cons_zero, List.set_cons_succ]
                  refine takeL (i := 13) (v := .int .i64 (k : Int)) rfl (by kernel_rfl) (by kernel_rfl) (by kernel_rfl) (fun _ _ _ h => h) (Or.inl ⟨by rfl, ?_⟩) (by assumption) ?_
                  · intro x hSx; subst hSx; go_simp
                  try simp only [Act.put, List.setIfInBounds_toArray, List.set_cons_zero, List.set_cons_succ]
                  refine takeL (i := 14) (v := .pointer (some ⟨ga, oa + k * 9, none⟩)) rfl (by kernel_rfl) (by kernel_rfl) (by kernel_rfl) (fun _ _ _ h => h) (Or.inl ⟨by rfl, ?_⟩) (by assumption) ?_
                  · intro x hSx; subst hSx; go_simp
                  try simp only [Act.put, List.setIfInBounds_toArray, List.set_cons_zero, List.set_cons_succ]
                  refine takeL (i := 15) (v := .agg #[.int .i64 sq2, .int .i64 K2, .int .i64 V2, .int .i64 U2, .int .i64 N2, .int .i64 FL2, .string US2, .string NM2, .string TX2]) rfl (by kernel_rfl) (by kernel_rfl) (by kernel_rfl) (fun _ _ _ h => h) (Or.inl ⟨by rfl, ?_⟩) (by assumption) ?_
                  · intro x hSx; subst hSx; go_simp
                  try simp only [Act.put, List.setIfInBounds_toArray, List.set_cons_zero, List.set_cons_succ]
                  refine takeL (i := 16) (v := .slice (some ⟨ga, oa, none⟩) l.length cap) rfl (by kernel_rfl) (by kernel_rfl) (by kernel_rfl) (fun _ _ _ h => h) (Or.inl ⟨by rfl, ?_⟩) (by assumption) ?_
                  · intro x hSx; subst hSx; go_simp
                  try simp only [Act.put, List.setIfInBounds_toArray, List.set_cons_zero, List.set_cons_succ]
                  refine takeL (i := 17) (v := .int .i64 (i : Int)) rfl (by kernel_rfl) (by kernel_rfl) (by kernel_rfl) (fun _ _ _ h => h) (Or.inl ⟨by rfl, ?_⟩) (by assumption) ?_
                  · intro x hSx; subst hSx; go_simp
                  try simp only [Act.put, List.setIfInBounds_toArray, List.set_cons_zero, List.set_cons_succ]
                  refine takeL (i := 18) (v := .pointer (some ⟨ga, oa + i * 9, none⟩)) rfl (by kernel_rfl) (by kernel_rfl) (by kernel_rfl) (fun _ _ _ h => h) (Or.inl ⟨by rfl, ?_⟩) (by assumption) ?_
                  · intro x hSx; subst hSx; go_simp
                  try simp only [Act.put, List.setIfInBounds_toArray, List.set_cons_zero, List.set_cons_succ]
                  refine takeL (i := 19) (v := .agg #[.int .i64 sq2, .int .i64 K, .int .i64 V, .int .i64 U, .int .i64 N, .int .i64 FL, .string US, .string NM, .string TX]) rfl (by kernel_rfl) (by kernel_rfl) (by kernel_rfl) (fun _ _ _ h => h) (Or.inl ⟨by rfl, ?_⟩) (by assumption) ?_
                  · intro x hSx; subst hSx; go_simp
                  try simp only [Act.put, List.setIfInBounds_toArray, List.set_cons_zero, List.set_cons_succ]
                  refine takeL (i := 20) (v := .bool true) rfl (by kernel_rfl) (by kernel_rfl) (by kernel_rfl) (fun _ _ _ h => h) (Or.inl ⟨by rfl, ?_⟩) (by assumption) ?_
                  · intro x hSx; subst hSx; go_simp; simp only [ba_same]; exact fun h0 h1 h2 h3 h4 h5 h6 h7 => HNE.out ⟨h0, h1, h2, h3, h4, h5, h6, h7⟩
                  try simp only [Act.put, List.setIfInBounds_toArray, List.set_cons_zero, List.set_cons_succ]
                  refine takeL (i := 21) (v := .bool true) rfl (by kernel_rfl) (by kernel_rfl) (by kernel_rfl) (fun _ _ _ h => h) (Or.inl ⟨by rfl, ?_⟩) (by assumption) ?_
                  · intro x hSx; subst hSx; go_simp
                  try simp only [Act.put, List.setIfInBounds_toArray, List.set_cons_zero, List.set_cons_succ]
                  refine wpAnyH_done (by kernel_rfl) ?_ _
                  go_wp2
                  go_ret
                  exact ⟨by rw [HE.out]; rfl, bD⟩
              · have hq2 : (sq2 == sq) = false := beq_eq_false_iff_ne.2 hq
                go_wp2_with fail
                refine wp_region_held_drew (S := fun x => wr.drew = x) (by kernel_rfl) rfl (fun hHeld => ?_)
                refine takeL (i := 0) (v := .slice (some ⟨ga, oa, none⟩) l.length cap) rfl (by kernel_rfl) (by kernel_rfl) (by kernel_rfl) (fun _ _ _ h => h) (Or.inl ⟨by rfl, ?_⟩) (by assumption) ?_
                · intro x hSx; subst hSx; go_simp
                try simp only [Act.put, List.setIfInBounds_toArray, List.set_cons_zero, List.set_cons_succ]
                refine takeL (i := 1) (v := .int .i64 (k : Int)) rfl (by kernel_rfl) (by kernel_rfl) (by kernel_rfl) (fun _ _ _ h => h) (Or.inl ⟨by rfl, ?_⟩) (by assumption) ?_
                · intro x hSx; subst hSx; go_simp
                try simp only [Act.put, List.setIfInBounds_toArray, List.set_cons_zero, List.set_cons_succ]
                refine takeL (i := 2) (v := .pointer (some ⟨ga, oa + k * 9, none⟩)) rfl (by kernel_rfl) (by kernel_rfl) (by kernel_rfl) (fun _ _ _ h => h) (Or.inl ⟨by rfl, ?_⟩) (by assumption) ?_
                · intro x hSx; subst hSx; go_simp
                try simp only [Act.put, List.setIfInBounds_toArray, List.set_cons_zero, List.set_cons_succ]
                refine takeL (i := 3) (v := .pointer (some ⟨ga, oa + k * 9, none⟩)) rfl (by kernel_rfl) (by kernel_rfl) (by kernel_rfl) (fun _ _ _ h => h) (Or.inl ⟨by rfl, ?_⟩) (by assumption) ?_
                · intro x hSx; subst hSx; go_simp
                try simp only [Act.put, List.setIfInBounds_toArray, List.set_cons_zero, List.set_cons_succ]
                refine takeL (i := 4) (v := .int .i64 sq2) rfl (by kernel_rfl) (by kernel_rfl) (by kernel_rfl) (fun _ _ _ h => h) (Or.inl ⟨by rfl, ?_⟩) (by assumption) ?_
                · intro x hSx; subst hSx; go_simp
                try simp only [Act.put, List.setIfInBounds_toArray, List.set_cons_zero, List.set_cons_succ]
                refine takeL (i := 5) (v := .slice (some ⟨ga, oa, none⟩) l.length cap) rfl (by kernel_rfl) (by kernel_rfl) (by kernel_rfl) (fun _ _ _ h => h) (Or.inl ⟨by rfl, ?_⟩) (by assumption) ?_
                · intro x hSx; subst hSx; go_simp
                try simp only [Act.put, List.setIfInBounds_toArray, List.set_cons_zero, List.set_cons_succ]
                refine takeL (i := 6) (v := .int .i64 (i : Int)) rfl (by kernel_rfl) (by kernel_rfl) (by kernel_rfl) (fun _ _ _ h => h) (Or.inl ⟨by rfl, ?_⟩) (by assumption) ?_
                · intro x hSx; subst hSx; go_simp
                try simp only [Act.put, List.setIfInBounds_toArray, List.set_cons_zero, List.set_cons_succ]
                refine takeL (i := 7) (v := .pointer (some ⟨ga, oa + i * 9, none⟩)) rfl (by kernel_rfl) (by kernel_rfl) (by kernel_rfl) (fun _ _ _ h => h) (Or.inl ⟨by rfl, ?_⟩) (by assumption) ?_
                · intro x hSx; subst hSx; go_simp
                try simp only [Act.put, List.setIfInBounds_toArray, List.set_cons_zero, List.set_cons_succ]
                refine takeL (i := 8) (v := .pointer (some ⟨ga, oa + i * 9, none⟩)) rfl (by kernel_rfl) (by kernel_rfl) (by kernel_rfl) (fun _ _ _ h => h) (Or.inl ⟨by rfl, ?_⟩) (by assumption) ?_
                · intro x hSx; subst hSx; go_simp
                try simp only [Act.put, List.setIfInBounds_toArray, List.set_cons_zero, List.set_cons_succ]
                refine takeL (i := 9) (v := .int .i64 sq) rfl (by kernel_rfl) (by kernel_rfl) (by kernel_rfl) (fun _ _ _ h => h) (Or.inl ⟨by rfl, ?_⟩) (by assumption) ?_
                · intro x hSx; subst hSx; go_simp
                try simp only [Act.put, List.setIfInBounds_toArray, List.set_cons_zero, List.set_cons_succ]
                refine takeL (i := 10) (v := .bool false) rfl (by kernel_rfl) (by kernel_rfl) (by kernel_rfl) (fun _ _ _ h => h) (Or.inl ⟨by rfl, ?_⟩) (by assumption) ?_
                · intro x hSx; subst hSx; go_simp
                try simp only [Act.put, List.setIfInBounds_toArray, List.set_cons_zero, List.set_cons_succ]
                refine takeL (i := 11) (v := .bool false) rfl (by kernel_rfl) (by kernel_rfl) (by kernel_rfl) (fun _ _ _ h => h) (Or.inl ⟨by rfl, ?_⟩) (by assumption) ?_
                · intro x hSx; subst hSx; go_simp
                try simp only [Act.put, List.setIfInBounds_toArray, List.set_cons_zero, List.set_cons_succ]
                refine takeL (i := 12) (v := undef) rfl (by kernel_rfl) (by kernel_rfl) (by kernel_rfl) (fun _ _ _ h => h) (Or.inr ⟨by rfl, rfl⟩) (by assumption) ?_
                try simp only [Act.put, List.setIfInBounds_toArray, List.set_cons_zero, List.set_cons_succ]
                refine takeL (i := 13) (v := undef) rfl (by kernel_rfl) (by kernel_rfl) (by kernel_rfl) (fun _ _ _ h => h) (Or.inr ⟨by rfl, rfl⟩) (by assumption) ?_
                try simp only [Act.put, List.setIfInBounds_toArray, List.set_cons_zero, List.set_cons_succ]
                refine takeL (i := 14) (v := undef) rfl (by kernel_rfl) (by kernel_rfl) (by kernel_rfl) (fun _ _ _ h => h) (Or.inr ⟨by rfl, rfl⟩) (by assumption) ?_
                try simp only [Act.put, List.setIfInBounds_toArray, List.set_cons_zero, List.set_cons_succ]
                refine takeL (i := 15) (v := undef) rfl (by kernel_rfl) (by kernel_rfl) (by kernel_rfl) (fun _ _ _ h => h) (Or.inr ⟨by rfl, rfl⟩) (by assumption) ?_
                try simp only [Act.put, List.setIfInBounds_toArray, List.set_cons_zero, List.set_cons_succ]
                refine takeL (i := 16) (v := undef) rfl (by kernel_rfl) (by kernel_rfl) (by kernel_rfl) (fun _ _ _ h => h) (Or.inr ⟨by rfl, rfl⟩) (by assumption) ?_
                try simp only [Act.put, List.setIfInBounds_toArray, List.set_cons_zero, List.set_cons_succ]
                refine takeL (i := 17) (v := undef) rfl (by kernel_rfl) (by kernel_rfl) (by kernel_rfl) (fun _ _ _ h => h) (Or.inr ⟨by rfl, rfl⟩) (by assumption) ?_
                try simp only [Act.put, List.setIfInBounds_toArray, List.set_cons_zero, List.set_cons_succ]
                refine takeL (i := 18) (v := undef) rfl (by kernel_rfl) (by kernel_rfl) (by kernel_rfl) (fun _ _ _ h => h) (Or.inr ⟨by rfl, rfl⟩) (by assumption) ?_
                try simp only [Act.put, List.setIfInBounds_toArray, List.set_cons_zero, List.set_cons_succ]
                refine takeL (i := 19) (v := undef) rfl (by kernel_rfl) (by kernel_rfl) (by kernel_rfl) (fun _ _ _ h => h) (Or.inr ⟨by rfl, rfl⟩) (by assumption) ?_
                try simp only [Act.put, List.setIfInBounds_toArray, List.set_cons_zero, List.set_cons_succ]
                refine takeL (i := 20) (v := undef) rfl (by kernel_rfl) (by kernel_rfl) (by kernel_rfl) (fun _ _ _ h => h) (Or.inr ⟨by rfl, rfl⟩) (by assumption) ?_
                try simp only [Act.put, List.setIfInBounds_toArray, List.set_cons_zero, List.set_cons_succ]
                refine takeL (i := 21) (v := .bool false) rfl (by kernel_rfl) (by kernel_rfl) (by kernel_rfl) (fun _ _ _ h => h) (Or.inl ⟨by rfl, ?_⟩) (by assumption) ?_
                · intro x hSx; subst hSx; go_simp
                try simp only [Act.put, List.setIfInBounds_toArray, List.set_cons_zero, List.set_cons_succ]
                refine wpAnyH_done (by kernel_rfl) ?_ _
                go_wp2
                exact ⟨⟨k + 1, by omega, by go_num, fun j y hj hjk e => by
                  by_cases c : j = k
                  · subst c; have := HY.out; rw [hj] at this; cases this; exact absurd e hq
                  · exact HU.out j y hj (by omega) e, bD⟩, by first | omega | (simp [intOf]; omega)⟩
            · have hge : ¬ (k : Int) < (i : Int) := by omega
              have hki : k = i := by omega
              go_wp2
              exact ⟨⟨i + 1, by omega, by go_num, HG.out.next HX.out HOK.out (fun j y hj hji e => HU.out j y hj (by omega) e), hb⟩, by first | omega | (simp [intOf]; omega)⟩
        · have HE : Hid (D = false) := by rw [← HD.out]; exact items_bad HX.out (fun c => hok c.2)
          rw [decide_eq_false hok] at hRO
          unfold Rc.v at hRO
          simp only at hRO
          have HRO := Lib.hid hRO
          clear hRO hok
          go_wp2_with (first | (go_at_call 51; refine (l01In_yes _ _ _ _ hs1 hs2).mono ?_; rintro e w5 ⟨rfl, rfl⟩) | (go_at_call 52; refine (HRO.out _).mono ?_; rintro e w6 ⟨rfl, k6⟩))
          go_ret
          exact ⟨by rw [HE.out]; rfl, hb.trans (k6.mono hb.size)⟩
      · have HE : Hid (D = false) := by rw [← HD.out]; exact items_bad HX.out (fun c => hs c.1)
        go_wp2_with (go_at_call 51; refine (l01In_no _ _ _ _ hs).mono ?_; rintro e w5 ⟨rfl, rfl⟩)
        go_ret
        exact ⟨by rw [HE.out]; rfl, hb⟩
    · have hge : ¬ (i : Int) < (l.length : Int) := by omega
      have hil : i = l.length := by omega
      have HE : Hid (D = decide ((l.length : Int) ≤ 200)) := by
        rw [← HD.out]
        have h := HG.out
        rw [hil] at h
        rw [h.done]
        exact decide_eq_decide.2 (by omega)
      go_wp2
      go_ret
      exact ⟨by rw [HE.out]; rfl, hb⟩

end Go.Proofs.Ytjfilicddnhniaa

/- What a list of numbers is that a call builds in memory of its own, and the laws by which it grows, is read and is written. -/
namespace Go.Proofs.Ytjfilicddnhniaa
open Go.RowKit

theorem Try.info_int : (Try.prog.info? 3).map (fun i => (i.zero, i.size, i.bytes)) = some (some (.int .i64 0), 1, 8) := by kernel_rfl

def intV (l : List Int) : List Value := l.map fun c => .int .i64 c
theorem intV_length (l : List Int) : (intV l).length = l.length := by simp [intV]

/-- The slice v holds the numbers l in memory that the call made itself (blocks from B on); below B all is as it was in w0. -/
structure IBuf (B : Nat) (w0 w : World) (v : Value) (l : List Int) : Prop where
  own : w.ownsRow B 3 1 v l.length (intV l)
  bel : Below B w0 w
  le : B ≤ w.heap.size

theorem IBuf.alloc {B : Nat} {w0 w : World} {v : Value} {l : List Int} (h : IBuf B w0 w v l) (o : Obj) : IBuf B w0 (w.alloc o) v l :=
  ⟨h.own.alloc o, h.bel.alloc h.le o, by have := h.le; simp; omega⟩
theorem IBuf.drew {B : Nat} {w0 w : World} {v : Value} {l : List Int} (h : IBuf B w0 w v l) : IBuf B w0 w.drew v l :=
  ⟨h.own.drew, h.bel.drew, h.le⟩
theorem IBuf.fresh (w : World) : IBuf w.heap.size w (w.alloc (.cells #[] 3)) (.slice (some ⟨w.heap.size, 0, none⟩) 0 0) [] :=
  ⟨World.ownsRow_made w #[] 0 (Nat.le_refl _) (by decide) rfl, (Below.refl _ _).alloc (Nat.le_refl _) _, by simp⟩

/-- What is laid behind the heap's end, and nothing else, leaves the numbers where they are. -/
theorem IBuf.later {B : Nat} {w0 w w' : World} {v : Value} {l : List Int} (h : IBuf B w0 w v l) (hb : Below w.heap.size w w') : IBuf B w0 w' v l := by
  have hg : w.grownBy w' none := ⟨hb.os, hb.tape, hb.output, hb.size, fun k hk _ => hb.block k hk⟩
  refine ⟨h.own.kept hg ?_, h.bel.trans (hb.mono h.le), Nat.le_trans h.le hb.size⟩
  cases hv : v.ownBlock with
  | none => exact .inl rfl
  | some k => exact .inr (by simp)

theorem wpList_append_int {w0 w : World} {ops : Array Oper} {rest : List Oper} {o : Oper} {a : Act} {Q : Exit → Act → World → Prop} (hgd : o.guard = none) (s x : Operand)
    (ho : o.op = .call { callee := .builtin .append, args := #[s, x], argTypes := #[85, 85] })
    (B : Nat) (v : Value) (l : List Int) (hs : a.eval s = v) (hb : IBuf B w0 w v l)
    (ad : Addr) (t : Int) (hx : a.eval x = .slice (some ad) 1 1)
    (hnews : ∀ j u, [Value.int .i64 t][j]? = some u → w.cell? (ad.add j) = some u)
    (hlen : l.length + 1 ≤ 8796093022208)
    (h : ∀ v' w', IBuf B w0 w' v' (l ++ [t]) → wpList Try.prog ops Q rest (a.put o.dst v') w') : wpList Try.prog ops Q (o :: rest) a w := by
  obtain ⟨i0, hi, hz0, hz1, hz2⟩ := info_parts Try.info_int
  refine wpList_append_own _ hgd s x 85 ho B 3 i0 (.int .i64 0) 1 8 Try.underlying85 hi hz0 hz1 hz2 rfl (by decide) v l.length (intV l) hs hb.own ad 1 1 [.int .i64 t] hx (by simp) hnews ?_ (by unfold maxLen; omega) (by omega) hb.le ?_
  · intro u hu
    simp at hu
    subst hu
    rfl
  · intro v' w' hown hgrow _
    refine h v' w' ⟨?_, hb.bel.grown hgrow hb.le (fun k hk => (hb.own.lt k hk).1), Nat.le_trans hb.le hgrow.size⟩
    have e1 : (l ++ [t]).length = l.length + 1 := by simp
    have e2 : intV (l ++ [t]) = intV l ++ [.int .i64 t] := by simp [intV]
    rw [e1, e2]
    exact hown

theorem IBuf.form {B : Nat} {w0 w : World} {v : Value} {l : List Int} (h : IBuf B w0 w v l) : ∃ (a : Option Addr) (cap : Nat), v = .slice a l.length cap := by
  rcases h.own.2 with ⟨rfl, h0⟩ | ⟨g, cap, cur, rfl, _⟩
  · exact ⟨none, 0, by rw [h0]⟩
  · exact ⟨_, _, rfl⟩

/-- Numbers that can be read: each in its cell of a row; nothing where there is none. -/
def Ints (w : World) (v : Value) (l : List Int) : Prop :=
  (l = [] ∧ ∃ (a : Option Addr) (cap : Nat), v = .slice a 0 cap) ∨
  ∃ g cap : Nat, v = .slice (some ⟨g, 0, none⟩) l.length cap ∧ l.length ≤ cap ∧ g < w.heap.size ∧ ∀ j b, l[j]? = some b → w.cell? ⟨g, j, none⟩ = some (.int .i64 b)

theorem IBuf.ints {B : Nat} {w0 w : World} {v : Value} {l : List Int} (h : IBuf B w0 w v l) : Ints w v l := by
  rcases h.own.2 with ⟨rfl, h0⟩ | ⟨g, cap, cur, rfl, hg, hh, hnc, hcp, hcs, htake⟩
  · exact .inl ⟨List.length_eq_zero_iff.1 h0, _, _, rfl⟩
  · refine .inr ⟨g, cap, rfl, hnc, (h.own.lt g rfl).2, fun j b hj => ?_⟩
    have hlt : j < l.length := (List.getElem?_eq_some_iff.1 hj).1
    rw [h.own.cellAt j (by omega)]
    simp [intV, hj]

theorem Ints.later {w w' : World} {v : Value} {l : List Int} (h : Ints w v l) (hb : Below w.heap.size w w') : Ints w' v l := by
  rcases h with h | ⟨g, cap, hv, hc, hg, hcl⟩
  · exact .inl h
  · exact .inr ⟨g, cap, hv, hc, Nat.lt_of_lt_of_le hg hb.size, fun j b hj => (hb.cell (p := ⟨g, j, none⟩) hg).trans (hcl j b hj)⟩

/-- A store into the row. -/
theorem IBuf.stored {B : Nat} {w0 w : World} {g cap : Nat} {l : List Int} (h : IBuf B w0 w (.slice (some ⟨g, 0, none⟩) l.length cap) l) (j : Nat) (t : Int) :
    IBuf B w0 (w.setCell ⟨g, j, none⟩ (.int .i64 t)) (.slice (some ⟨g, 0, none⟩) l.length cap) (l.set j t) := by
  have hst := h.own.stored j (.int .i64 t)
  have e : intV (l.set j t) = (intV l).set j (.int .i64 t) := by simp [intV, List.map_set]
  refine ⟨?_, h.bel.setCell (h.own.lt g rfl).1 _, by have := h.le; simpa using this⟩
  have hl : (l.set j t).length = l.length := by simp
  rw [hl, e]
  exact hst.1

theorem IBuf.under {w0 w1 w : World} {v : Value} {l : List Int} (hb : Below w0.heap.size w0 w1) (h : IBuf w1.heap.size w1 w v l) : IBuf w0.heap.size w0 w v l := by
  refine ⟨⟨h.own.1, ?_⟩, hb.trans (h.bel.mono hb.size), Nat.le_trans hb.size h.le⟩
  rcases h.own.2 with h1 | ⟨g, cap, cur, h1, h2, h3⟩
  · exact .inl h1
  · exact .inr ⟨g, cap, cur, h1, Nat.le_trans hb.size h2, h3⟩

end Go.Proofs.Ytjfilicddnhniaa

/- What records tell: the model's numbers in their order. -/
namespace Go.Proofs.Ytjfilicddnhniaa
open Go.RowKit

theorem filt_yes {p : Int → Bool} {l : List Int} {i : Nat} {b : Int} (h : l[i]? = some b) (hp : p b = true) : (l.take (i + 1)).filter p = (l.take i).filter p ++ [b] := by
  rw [List.take_add_one, h, List.filter_append]
  simp [hp]
theorem filt_no {p : Int → Bool} {l : List Int} {i : Nat} {b : Int} (h : l[i]? = some b) (hp : p b = false) : (l.take (i + 1)).filter p = (l.take i).filter p := by
  rw [List.take_add_one, h, List.filter_append]
  simp [hp]
theorem filt_len (p : Int → Bool) (l : List Int) (i : Nat) : ((l.take i).filter p).length ≤ l.length :=
  Nat.le_trans (List.length_filter_le _ _) (List.length_take_le' _ _)
theorem one_intS (w : World) (t : Int) : ∀ j u, [Value.int .i64 t][j]? = some u → (w.alloc (.cells #[.int .i64 t] 3)).cell? ((⟨w.heap.size, 0, none⟩ : Addr).add j) = some u := by
  intro j u hj
  have : j = 0 := by have := (List.getElem?_eq_some_iff.1 hj).1; simp at this; exact this
  subst this
  simp at hj
  subst hj
  simp [Addr.add]

set_option maxRecDepth 100000 in
set_option maxHeartbeats 2000000 in
theorem specSorted_any (l : List Int) (v : Value) (x : Int) (w : World) (h : Ints w v l) (hl : l.length ≤ 1000000) :
    Calls Try.prog 54 #[v, .int .i64 x] w fun e w' => ∃ v', e = .returned v' ∧ IBuf w.heap.size w w' v' (insI l x) := by
  obtain ⟨ad, cap, rfl, hrow⟩ : ∃ (ad : Option Addr) (cap : Nat), v = .slice ad l.length cap ∧ ∀ X, Below w.heap.size w X → ∀ i b, l[i]? = some b → ∃ g, ad = some ⟨g, 0, none⟩ ∧ X.cell? ⟨g, i, none⟩ = some (.int .i64 b) := by
    rcases h with ⟨rfl, a, c, rfl⟩ | ⟨g, c, rfl, hc, hg, hcl⟩
    · exact ⟨a, c, rfl, fun X _ i x hi => by cases hi⟩
    · exact ⟨_, c, rfl, fun X hb i b hi => ⟨g, rfl, (hb.cell (p := ⟨g, i, none⟩) hg).trans (hcl i b hi)⟩⟩
  have HR := Lib.hid hrow
  clear h hrow
  have hst := IBuf.fresh w
  go_enter Try.func54, Try.ntmps54
  go_wp2
  go_loopw [5, 6] (fun ov iv wr => ∃ i : Nat, i ≤ l.length ∧ iv = .int .i64 (i : Int) ∧ IBuf w.heap.size w wr ov ((l.take i).filter (fun y => decide (y < x)))) (fun _ iv _ => l.length - (intOf iv).toNat)
  case atStart => exact ⟨0, by omega, rfl, hst⟩
  case round =>
    clear hst
    obtain ⟨i, hi, rfl, hb⟩ := hrel
    have hfl := filt_len (fun y => decide (y < x)) l i
    obtain ⟨oa, oc, rfl⟩ := hb.form
    by_cases hlt : i < l.length
    · have hgx : l[i]? = some l[i] := List.getElem?_eq_getElem hlt
      obtain ⟨g, rfl, c0⟩ := HR.out _ hb.bel i _ hgx
      generalize l[i] = b at *
      have hi0 : (0 : Int) ≤ (i : Int) := by omega
      have hi1 : (i : Int) < (l.length : Int) := by omega
      by_cases hbx : b < x
      · have HE := Lib.hid (filt_yes (p := fun y => decide (y < x)) hgx (decide_eq_true hbx))
        clear hgx
        generalize (l.take i).filter (fun y => decide (y < x)) = L at *
        have HB := Lib.hid hb
        clear hb
        go_wp2_with (at_builtin; refine wpList_append_int rfl _ _ rfl _ _ L rfl (HB.out.alloc _) ⟨wr.heap.size, 0, none⟩ b rfl ?c1 ?c2 ?_)
        case c1 => exact one_intS _ _
        case c2 => omega
        intro v' w4 hb4
        have HB4 := Lib.hid hb4
        clear hb4 c0
        go_wp2
        exact ⟨⟨i + 1, by omega, by simp, by rw [HE.out]; exact HB4.out⟩, by first | omega | (simp [intOf]; omega)⟩
      · have HE := Lib.hid (filt_no (p := fun y => decide (y < x)) hgx (decide_eq_false hbx))
        clear hgx
        generalize (l.take i).filter (fun y => decide (y < x)) = L at *
        have HB := Lib.hid hb
        clear hb
        go_wp2
        exact ⟨⟨i + 1, by omega, by simp, by rw [HE.out]; exact HB.out⟩, by first | omega | (simp [intOf]; omega)⟩
    · have hie : i = l.length := by omega
      subst hie
      rw [List.take_length] at hb hfl ⊢
      have HF : Hid (l.filter (fun y => decide (y < x)) ++ (x :: l.filter (fun y => decide (x < y))) = insI l x) := rfl
      generalize l.filter (fun y => decide (y < x)) = L at *
      have HB := Lib.hid hb
      clear hb
      go_wp2_with (at_builtin; refine wpList_append_int rfl _ _ rfl _ _ L rfl (HB.out.alloc _) ⟨wr.heap.size, 0, none⟩ x rfl ?c1 ?c2 ?_)
      case c1 => exact one_intS _ _
      case c2 => omega
      intro v' w4 hb4
      have HB4 := Lib.hid hb4
      clear HB hb4
      go_wp2
      go_loopw [5, 7] (fun ov iv wr => ∃ i : Nat, i ≤ l.length ∧ iv = .int .i64 (i : Int) ∧ IBuf w.heap.size w wr ov (L ++ [x] ++ (l.take i).filter (fun y => decide (x < y)))) (fun _ iv _ => l.length - (intOf iv).toNat)
      case atStart => exact ⟨0, by omega, rfl, by simpa using HB4.out⟩
      case round =>
        clear HB4
        obtain ⟨i, hi, rfl, hb⟩ := hrel
        have hfl2 := filt_len (fun y => decide (x < y)) l i
        by_cases hlt : i < l.length
        · have hgx : l[i]? = some l[i] := List.getElem?_eq_getElem hlt
          obtain ⟨g, rfl, c0⟩ := HR.out _ hb.bel i _ hgx
          generalize l[i] = b at *
          have hi0 : (0 : Int) ≤ (i : Int) := by omega
          have hi1 : (i : Int) < (l.length : Int) := by omega
          by_cases hbx : x < b
          · have HE := Lib.hid (filt_yes (p := fun y => decide (x < y)) hgx (decide_eq_true hbx))
            clear hgx
            generalize (l.take i).filter (fun y => decide (x < y)) = M at *
            have hml : (L ++ [x] ++ M).length ≤ 2000001 := by simp; omega
            have HB := Lib.hid hb
            clear hb
            generalize hK : L ++ [x] ++ M = K at *
            go_wp2_with (at_builtin; refine wpList_append_int rfl _ _ rfl _ _ K rfl (HB.out.alloc _) ⟨wr.heap.size, 0, none⟩ b rfl ?c1 ?c2 ?_)
            case c1 => exact one_intS _ _
            case c2 => omega
            intro v' w5 hb5
            have HB5 := Lib.hid hb5
            clear hb5 c0
            go_wp2
            exact ⟨⟨i + 1, by omega, by simp, by rw [HE.out, ← List.append_assoc, hK]; exact HB5.out⟩, by first | omega | (simp [intOf]; omega)⟩
          · have HE := Lib.hid (filt_no (p := fun y => decide (x < y)) hgx (decide_eq_false hbx))
            clear hgx
            generalize (l.take i).filter (fun y => decide (x < y)) = M at *
            have HB := Lib.hid hb
            clear hb
            go_wp2
            exact ⟨⟨i + 1, by omega, by simp, by rw [HE.out]; exact HB.out⟩, by first | omega | (simp [intOf]; omega)⟩
        · have hie : i = l.length := by omega
          subst hie
          rw [List.take_length] at hb
          have HB := Lib.hid hb
          clear hb
          go_wp2
          go_ret
          have e : L ++ [x] ++ l.filter (fun y => decide (x < y)) = insI l x := by rw [← HF.out]; simp
          have hb' := HB.out
          rw [e] at hb'
          exact ⟨_, rfl, hb'⟩

end Go.Proofs.Ytjfilicddnhniaa
