/- Texts of our own, joined. -/
import Derived.Test.YthlbokfajiahpaaJf
import Derived.Test.YthlbokfajiahpaaJb
import Derived.Laws.StructEq
import Derived.Test.YthlbokfajiahpaaJc
import Derived.Laws.Bits128
import Derived.Lib.SmallJoins
import Derived.WalkSpells
import Derived.WalkSmall
import Derived.Deep.RegionHeld3
import Derived.Deep.QuietTactic
import Derived.BigQuiet
import Derived.OpenShut
/- What records tell: the model's ItemsOk. -/
namespace Go.Proofs.Ythlbokfajiahpaa
open Go.RowKit

theorem ba_same (a b : ByteArray) : a.toList = b.toList ↔ a = b := by
  have h := ba_beq a b
  constructor
  · intro e
    rw [beq_iff_eq.2 e] at h
    exact of_decide_eq_true h.symm
  · intro e; rw [e]

/-- A list of items that can be read, as a loop reads it. -/
def ItRow (w : World) (ad : Option Addr) (l : List Itm) : Prop := ∀ X, Below w.heap.size w X → ∀ i x, l[i]? = some x → ∃ g off, ad = some ⟨g, off, none⟩ ∧ X.cell? ⟨g, off + i * 9, none⟩ = some (.int .i64 x.1) ∧ X.cell? ⟨g, off + i * 9 + 1, none⟩ = some (.int .i64 x.2.kind) ∧ X.cell? ⟨g, off + i * 9 + 2, none⟩ = some (.int .i64 x.2.valid) ∧ X.cell? ⟨g, off + i * 9 + 3, none⟩ = some (.int .i64 x.2.uid) ∧ X.cell? ⟨g, off + i * 9 + 4, none⟩ = some (.int .i64 x.2.next) ∧ X.cell? ⟨g, off + i * 9 + 5, none⟩ = some (.int .i64 x.2.flags) ∧ X.cell? ⟨g, off + i * 9 + 6, none⟩ = some (.string x.2.user) ∧ X.cell? ⟨g, off + i * 9 + 7, none⟩ = some (.string x.2.name) ∧ X.cell? ⟨g, off + i * 9 + 8, none⟩ = some (.string x.2.text)
theorem Rows'.items {w : World} {v : Value} {l : List Itm} (h : Rows' itE w v l) : ∃ (ad : Option Addr) (cap : Nat), v = .slice ad l.length cap ∧ ItRow w ad l := by
  rcases h.ways with ⟨rfl, a, c, rfl⟩ | ⟨hne, g, off, c, rfl, hc, hg, hcl⟩
  · exact ⟨a, c, rfl, fun X _ i x hi => by cases hi⟩
  · exact ⟨_, c, rfl, fun X hb i x hi => ⟨g, off, rfl, it_cells hcl hg hb i x hi⟩⟩

set_option maxRecDepth 100000 in
set_option maxHeartbeats 4000000 in
theorem specItemsOk_any (l : List Itm) (v : Value) (w : World) (h : Rows' itE w v l) (hl : l.length ≤ 1099511627776) (hsz : ∀ x ∈ l, x.2.user.size ≤ 1099511627776 ∧ x.2.name.size ≤ 1099511627776 ∧ x.2.text.size ≤ 1099511627776) :
    Calls Try.prog 40 #[v] w fun e w' => e = .returned (.bool (decide (itemsOk l))) ∧ Below w.heap.size w w' := by
  obtain ⟨ad, cap, rfl, hrow⟩ := h.items
  have HR := Lib.hid hrow
  have HZ := Lib.hid hsz
  clear h hrow hsz
  obtain ⟨D, hD⟩ : ∃ D, decide (itemsOk l) = D := ⟨_, rfl⟩
  have HD := Lib.hid hD
  rw [hD]
  clear hD
  go_enter Try.func40, Try.ntmps40
  go_wp2
  go_loopw [3] (fun iv wr => ∃ i : Nat, i ≤ l.length ∧ iv = .int .i64 (i : Int) ∧ ItG l i ∧ Below w.heap.size w wr) (fun iv _ => l.length - (intOf iv).toNat)
  case atStart => exact ⟨0, by omega, rfl, ItG.zero l, Below.refl _ _⟩
  case round =>
    obtain ⟨i, hi, rfl, hG, hb⟩ := hrel
    have HG := Lib.hid hG
    clear hG
    by_cases hlt : i < l.length
    · have hgx : l[i]? = some l[i] := List.getElem?_eq_getElem hlt
      have hzx := HZ.out l[i] (List.getElem_mem hlt)
      obtain ⟨ga, oa, rfl, a0, a1, a2, a3, a4, a5, a6, a7, a8⟩ := HR.out _ hb i _ hgx
      obtain ⟨x, hx⟩ : ∃ x, l[i] = x := ⟨_, rfl⟩
      rw [hx] at hgx hzx a0 a1 a2 a3 a4 a5 a6 a7 a8
      clear hx
      have HX := Lib.hid hgx
      obtain ⟨sq, K, V, U, N, FL, US, NM, TX⟩ := x
      simp only at a0 a1 a2 a3 a4 a5 a6 a7 a8 hzx
      have hi0 : (0 : Int) ≤ (i : Int) := by omega
      have hi1 : (i : Int) < (l.length : Int) := by omega
      clear hgx
      by_cases hs : 1 ≤ sq ∧ sq ≤ 1000000000
      · obtain ⟨hs1, hs2⟩ := hs
        have hRO := fun wx => specRecOk_any ⟨K, V, U, N, FL, US, NM, TX⟩ wx hzx.1 hzx.2.1 hzx.2.2
        by_cases hok : (⟨K, V, U, N, FL, US, NM, TX⟩ : Rc).ok
        · rw [decide_eq_true hok] at hRO
          have HOK : Hid (itOk (sq, ⟨K, V, U, N, FL, US, NM, TX⟩)) := ⟨⟨hs1, hs2⟩, hok⟩
          unfold Rc.v at hRO
          simp only at hRO
          have HRO := Lib.hid hRO
          clear hRO hok
          go_wp2_with (first | (go_at_call 56; refine (l01In_yes _ _ _ _ hs1 hs2).mono ?_; rintro e w5 ⟨rfl, rfl⟩) | (go_at_call 15; refine (HRO.out _).mono ?_; rintro e w6 ⟨rfl, k6⟩))
          have b6 := hb.trans (k6.mono hb.size)
          clear a0 a1 a2 a3 a4 a5 a6 a7 a8 k6 hb HRO hzx hs1 hs2
          go_loopw [4] (fun kv wr2 => ∃ k : Nat, k ≤ i ∧ kv = .int .i64 (k : Int) ∧ (∀ (j : Nat) (y : Itm), l[j]? = some y → j < k → y.1 = sq → y = (sq, ⟨K, V, U, N, FL, US, NM, TX⟩)) ∧ Below w.heap.size w wr2) (fun kv _ => i - (intOf kv).toNat)
          case atStart => exact ⟨0, by omega, rfl, fun j y _ hj => by omega, b6⟩
          case round =>
            obtain ⟨k, hk, rfl, hU, hb⟩ := hrel
            have HU := Lib.hid hU
            clear hU b6
            by_cases hlk : k < i
            · have hgy : l[k]? = some (l[k]'(by omega)) := List.getElem?_eq_getElem (by omega)
              obtain ⟨ga2, oa2, he, c0, c1, c2, c3, c4, c5, c6, c7, c8⟩ := HR.out _ (hb.trans ((Below.refl wr.heap.size wr).drew.mono hb.size)) k _ hgy
              cases he
              obtain ⟨ga3, oa3, he, a0, a1, a2, a3, a4, a5, a6, a7, a8⟩ := HR.out _ (hb.trans ((Below.refl wr.heap.size wr).drew.mono hb.size)) i _ HX.out
              cases he
              obtain ⟨y, hy⟩ : ∃ y, l[k]'(by omega) = y := ⟨_, rfl⟩
              rw [hy] at hgy c0 c1 c2 c3 c4 c5 c6 c7 c8
              clear hy
              have HY := Lib.hid hgy
              obtain ⟨sq2, K2, V2, U2, N2, FL2, US2, NM2, TX2⟩ := y
              simp only at a0 a1 a2 a3 a4 a5 a6 a7 a8 c0 c1 c2 c3 c4 c5 c6 c7 c8
              have hk0 : (0 : Int) ≤ (k : Int) := by omega
              have hk1 : (k : Int) < (l.length : Int) := by omega
              have hk2 : (k : Int) < (i : Int) := by omega
              clear hgy
              have bD : Below w.heap.size w wr.drew := hb.trans ((Below.refl wr.heap.size wr).drew.mono hb.size)
              clear hb
              by_cases hq : sq2 = sq
              · subst hq
                by_cases hsame : K2 = K ∧ V2 = V ∧ U2 = U ∧ N2 = N ∧ FL2 = FL ∧ US2 = US ∧ NM2 = NM ∧ TX2 = TX
                · obtain ⟨rfl, rfl, rfl, rfl, rfl, rfl, rfl, rfl⟩ := hsame
                  go_wp2_with fail
                  refine wp_region_held_drew (S := fun x => wr.drew = x) (by kernel_rfl) rfl (fun hHeld => ?_)
                  refine takeL (i := 0) (v := .slice (some ⟨ga, oa, none⟩) l.length cap) rfl (by kernel_rfl) (by kernel_rfl) (by kernel_rfl) (fun _ _ _ h => h) (Or.inl ⟨by rfl, ?_⟩) (by assumption) ?_
                  · intro x hSx; subst hSx; go_simp
                  try simp only [Act.put, List.setIfInBounds_toArray, List.set_cons_zero, List.set_cons_succ]
                  refine takeL (i := 1) (v := .int .i64 (k : Int)) rfl (by kernel_rfl) (by kernel_rfl) (by kernel_rfl) (fun _ _ _ h => h) (Or.inl ⟨by rfl, ?_⟩) (by assumption) ?_
                  · intro x hSx; subst hSx; go_simp
                  try simp only [Act.put, List.setIfInBounds_toArray, List.set_cons_zero, List.set_cons_succ]
                  refine takeL (i := 2) (v := .pointer (some ⟨ga, oa + k * 9, none⟩)) rfl (by kernel_rfl) (by kernel_rfl) (by kernel_rfl) (fun _ _ _ h => h) (Or.inl ⟨by rfl, ?_⟩) (by assumption) ?_
                  · intro x hSx; subst hSx; go_simp
                  try simp only [Act.put, List.setIfInBounds_toArray, List.set_cons_zero, List.set_cons_succ]
                  refine takeL (i := 3) (v := .pointer (some ⟨ga, oa + k * 9, none⟩)) rfl (by kernel_rfl) (by kernel_rfl) (by kernel_rfl) (fun _ _ _ h => h) (Or.inl ⟨by rfl, ?_⟩) (by assumption) ?_
                  · intro x hSx; subst hSx; go_simp
                  try simp only [Act.put, List.setIfInBounds_toArray, List.set_cons_zero, List.set_cons_succ]
                  refine takeL (i := 4) (v := .int .i64 sq2) rfl (by kernel_rfl) (by kernel_rfl) (by kernel_rfl) (fun _ _ _ h => h) (Or.inl ⟨by rfl, ?_⟩) (by assumption) ?_
                  · intro x hSx; subst hSx; go_simp
                  try simp only [Act.put, List.setIfInBounds_toArray, List.set_cons_zero, List.set_cons_succ]
                  refine takeL (i := 5) (v := .slice (some ⟨ga, oa, none⟩) l.length cap) rfl (by kernel_rfl) (by kernel_rfl) (by kernel_rfl) (fun _ _ _ h => h) (Or.inl ⟨by rfl, ?_⟩) (by assumption) ?_
                  · intro x hSx; subst hSx; go_simp
                  try simp only [Act.put, List.setIfInBounds_toArray, List.set_cons_zero, List.set_cons_succ]
                  refine takeL (i := 6) (v := .int .i64 (i : Int)) rfl (by kernel_rfl) (by kernel_rfl) (by kernel_rfl) (fun _ _ _ h => h) (Or.inl ⟨by rfl, ?_⟩) (by assumption) ?_
                  · intro x hSx; subst hSx; go_simp
                  try simp only [Act.put, List.setIfInBounds_toArray, List.set_cons_zero, List.set_cons_succ]
                  refine takeL (i := 7) (v := .pointer (some ⟨ga, oa + i * 9, none⟩)) rfl (by kernel_rfl) (by kernel_rfl) (by kernel_rfl) (fun _ _ _ h => h) (Or.inl ⟨by rfl, ?_⟩) (by assumption) ?_
                  · intro x hSx; subst hSx; go_simp
                  try simp only [Act.put, List.setIfInBounds_toArray, List.set_cons_zero, List.set_cons_succ]
                  refine takeL (i := 8) (v := .pointer (some ⟨ga, oa + i * 9, none⟩)) rfl (by kernel_rfl) (by kernel_rfl) (by kernel_rfl) (fun _ _ _ h => h) (Or.inl ⟨by rfl, ?_⟩) (by assumption) ?_
                  · intro x hSx; subst hSx; go_simp
                  try simp only [Act.put, List.setIfInBounds_toArray, List.set_cons_zero, List.set_cons_succ]
                  refine takeL (i := 9) (v := .int .i64 sq2) rfl (by kernel_rfl) (by kernel_rfl) (by kernel_rfl) (fun _ _ _ h => h) (Or.inl ⟨by rfl, ?_⟩) (by assumption) ?_
                  · intro x hSx; subst hSx; go_simp
                  try simp only [Act.put, List.setIfInBounds_toArray, List.set_cons_zero, List.set_cons_succ]
                  refine takeL (i := 10) (v := .bool true) rfl (by kernel_rfl) (by kernel_rfl) (by kernel_rfl) (fun _ _ _ h => h) (Or.inl ⟨by rfl, ?_⟩) (by assumption) ?_
                  · intro x hSx; subst hSx; go_simp
                  try simp only [Act.put, List.setIfInBounds_toArray, List.set_cons_zero, List.set_cons_succ]
                  refine takeL (i := 11) (v := .bool true) rfl (by kernel_rfl) (by kernel_rfl) (by kernel_rfl) (fun _ _ _ h => h) (Or.inl ⟨by rfl, ?_⟩) (by assumption) ?_
                  · intro x hSx; subst hSx; go_simp
                  try simp only [Act.put, List.setIfInBounds_toArray, List.set_cons_zero, List.set_cons_succ]
                  refine takeL (i := 12) (v := .slice (some ⟨ga, oa, none⟩) l.length cap) rfl (by kernel_rfl) (by kernel_rfl) (by kernel_rfl) (fun _ _ _ h => h) (Or.inl ⟨by rfl, ?_⟩) (by assumption) ?_
                  · intro x hSx; subst hSx; go_simp
                  try simp only [Act.put, List.setIfInBounds_toArray, List.set_cons_zero, List.set_cons_succ]
                  refine takeL (i := 13) (v := .int .i64 (k : Int)) rfl (by kernel_rfl) (by kernel_rfl) (by kernel_rfl) (fun _ _ _ h => h) (Or.inl ⟨by rfl, ?_⟩) (by assumption) ?_
                  · intro x hSx; subst hSx; go_simp
                  try simp only [Act.put, List.setIfInBounds_toArray, List.set_cons_zero, List.set_cons_succ]
                  refine takeL (i := 14) (v := .pointer (some ⟨ga, oa + k * 9, none⟩)) rfl (by kernel_rfl) (by kernel_rfl) (by kernel_rfl) (fun _ _ _ h => h) (Or.inl ⟨by rfl, ?_⟩) (by assumption) ?_
                  · intro x hSx; subst hSx; go_simp
                  try simp only [Act.put, List.setIfInBounds_toArray, List.set_cons_zero, List.set_cons_succ]
                  refine takeL (i := 15) (v := .agg #[.int .i64 sq2, .int .i64 K2, .int .i64 V2, .int .i64 U2, .int .i64 N2, .int .i64 FL2, .string US2, .string NM2, .string TX2]) rfl (by kernel_rfl) (by kernel_rfl) (by kernel_rfl) (fun _ _ _ h => h) (Or.inl ⟨by rfl, ?_⟩) (by assumption) ?_
                  · intro x hSx; subst hSx; go_simp
                  try simp only [Act.put, List.setIfInBounds_toArray, List.set_cons_zero, List.set_cons_succ]
                  refine takeL (i := 16) (v := .slice (some ⟨ga, oa, none⟩) l.length cap) rfl (by kernel_rfl) (by kernel_rfl) (by kernel_rfl) (fun _ _ _ h => h) (Or.inl ⟨by rfl, ?_⟩) (by assumption) ?_
                  · intro x hSx; subst hSx; go_simp
                  try simp only [Act.put, List.setIfInBounds_toArray, List.set_cons_zero, List.set_cons_succ]
                  refine takeL (i := 17) (v := .int .i64 (i : Int)) rfl (by kernel_rfl) (by kernel_rfl) (by kernel_rfl) (fun _ _ _ h => h) (Or.inl ⟨by rfl, ?_⟩) (by assumption) ?_
                  · intro x hSx; subst hSx; go_simp
                  try simp only [Act.put, List.setIfInBounds_toArray, List.set_cons_zero, List.set_cons_succ]
                  refine takeL (i := 18) (v := .pointer (some ⟨ga, oa + i * 9, none⟩)) rfl (by kernel_rfl) (by kernel_rfl) (by kernel_rfl) (fun _ _ _ h => h) (Or.inl ⟨by rfl, ?_⟩) (by assumption) ?_
                  · intro x hSx; subst hSx; go_simp
                  try simp only [Act.put, List.setIfInBounds_toArray, List.set_cons_zero, List.set_cons_succ]
                  refine takeL (i := 19) (v := .agg #[.int .i64 sq2, .int .i64 K2, .int .i64 V2, .int .i64 U2, .int .i64 N2, .int .i64 FL2, .string US2, .string NM2, .string TX2]) rfl (by kernel_rfl) (by kernel_rfl) (by kernel_rfl) (fun _ _ _ h => h) (Or.inl ⟨by rfl, ?_⟩) (by assumption) ?_
                  · intro x hSx; subst hSx; go_simp
                  try simp only [Act.put, List.setIfInBounds_toArray, List.set_cons_zero, List.set_cons_succ]
                  refine takeL (i := 20) (v := .bool false) rfl (by kernel_rfl) (by kernel_rfl) (by kernel_rfl) (fun _ _ _ h => h) (Or.inl ⟨by rfl, ?_⟩) (by assumption) ?_
                  · intro x hSx; subst hSx; go_simp
                  try simp only [Act.put, List.setIfInBounds_toArray, List.set_cons_zero, List.set_cons_succ]
                  refine takeL (i := 21) (v := .bool false) rfl (by kernel_rfl) (by kernel_rfl) (by kernel_rfl) (fun _ _ _ h => h) (Or.inl ⟨by rfl, ?_⟩) (by assumption) ?_
                  · intro x hSx; subst hSx; go_simp
                  try simp only [Act.put, List.setIfInBounds_toArray, List.set_cons_zero, List.set_cons_succ]
                  refine wpAnyH_done (by kernel_rfl) ?_ _
                  go_wp2
                  exact ⟨⟨k + 1, by omega, by go_num, fun j y hj hjk e => by
                    by_cases c : j = k
                    · subst c; have := HY.out; rw [hj] at this; cases this; rfl
                    · exact HU.out j y hj (by omega) e, bD⟩, by first | omega | (simp [intOf]; omega)⟩
                · have HE : Hid (D = false) := by
                    rw [← HD.out]
                    exact items_part HY.out HX.out rfl (fun e => hsame (by cases e; exact ⟨rfl, rfl, rfl, rfl, rfl, rfl, rfl, rfl⟩))
                  have HNE := Lib.hid hsame
                  clear hsame
                  go_wp2_with fail
                  refine wp_region_held_drew (S := fun x => wr.drew = x) (by kernel_rfl) rfl (fun hHeld => ?_)
                  refine takeL (i := 0) (v := .slice (some ⟨ga, oa, none⟩) l.length cap) rfl (by kernel_rfl) (by kernel_rfl) (by kernel_rfl) (fun _ _ _ h => h) (Or.inl ⟨by rfl, ?_⟩) (by assumption) ?_
                  · intro x hSx; subst hSx; go_simp
                  try simp only [Act.put, List.setIfInBounds_toArray, List.set_cons_zero, List.set_cons_succ]
                  refine takeL (i := 1) (v := .int .i64 (k : Int)) rfl (by kernel_rfl) (by kernel_rfl) (by kernel_rfl) (fun _ _ _ h => h) (Or.inl ⟨by rfl, ?_⟩) (by assumption) ?_
                  · intro x hSx; subst hSx; go_simp
                  try simp only [Act.put, List.setIfInBounds_toArray, List.set_cons_zero, List.set_cons_succ]
                  refine takeL (i := 2) (v := .pointer (some ⟨ga, oa + k * 9, none⟩)) rfl (by kernel_rfl) (by kernel_rfl) (by kernel_rfl) (fun _ _ _ h => h) (Or.inl ⟨by rfl, ?_⟩) (by assumption) ?_
                  · intro x hSx; subst hSx; go_simp
                  try simp only [Act.put, List.setIfInBounds_toArray, List.set_cons_zero, List.set_cons_succ]
                  refine takeL (i := 3) (v := .pointer (some ⟨ga, oa + k * 9, none⟩)) rfl (by kernel_rfl) (by kernel_rfl) (by kernel_rfl) (fun _ _ _ h => h) (Or.inl ⟨by rfl, ?_⟩) (by assumption) ?_
                  · intro x hSx; subst hSx; go_simp
                  try simp only [Act.put, List.setIfInBounds_toArray, List.set_cons_zero, List.set_cons_succ]
                  refine takeL (i := 4) (v := .int .i64 sq2) rfl (by kernel_rfl) (by kernel_rfl) (by kernel_rfl) (fun _ _ _ h => h) (Or.inl ⟨by rfl, ?_⟩) (by assumption) ?_
                  · intro x hSx; subst hSx; go_simp
                  try simp only [Act.put, List.setIfInBounds_toArray, List.set_cons_zero, List.set_cons_succ]
                  refine takeL (i := 5) (v := .slice (some ⟨ga, oa, none⟩) l.length cap) rfl (by kernel_rfl) (by kernel_rfl) (by kernel_rfl) (fun _ _ _ h => h) (Or.inl ⟨by rfl, ?_⟩) (by assumption) ?_
                  · intro x hSx; subst hSx; go_simp
                  try simp only [Act.put, List.setIfInBounds_toArray, List.set_cons_zero, List.set_cons_succ]
                  refine takeL (i := 6) (v := .int .i64 (i : Int)) rfl (by kernel_rfl) (by kernel_rfl) (by kernel_rfl) (fun _ _ _ h => h) (Or.inl ⟨by rfl, ?_⟩) (by assumption) ?_
                  · intro x hSx; subst hSx; go_simp
                  try simp only [Act.put, List.setIfInBounds_toArray, List.set_cons_zero, List.set_cons_succ]
                  refine takeL (i := 7) (v := .pointer (some ⟨ga, oa + i * 9, none⟩)) rfl (by kernel_rfl) (by kernel_rfl) (by kernel_rfl) (fun _ _ _ h => h) (Or.inl ⟨by rfl, ?_⟩) (by assumption) ?_
                  · intro x hSx; subst hSx; go_simp
                  try simp only [Act.put, List.setIfInBounds_toArray, List.set_cons_zero, List.set_cons_succ]
                  refine takeL (i := 8) (v := .pointer (some ⟨ga, oa + i * 9, none⟩)) rfl (by kernel_rfl) (by kernel_rfl) (by kernel_rfl) (fun _ _ _ h => h) (Or.inl ⟨by rfl, ?_⟩) (by assumption) ?_
                  · intro x hSx; subst hSx; go_simp
                  try simp only [Act.put, List.setIfInBounds_toArray, List.set_cons_zero, List.set_cons_succ]
                  refine takeL (i := 9) (v := .int .i64 sq2) rfl (by kernel_rfl) (by kernel_rfl) (by kernel_rfl) (fun _ _ _ h => h) (Or.inl ⟨by rfl, ?_⟩) (by assumption) ?_
                  · intro x hSx; subst hSx; go_simp
                  try simp only [Act.put, List.setIfInBounds_toArray, List.set_cons_zero, List.set_cons_succ]
                  refine takeL (i := 10) (v := .bool true) rfl (by kernel_rfl) (by kernel_rfl) (by kernel_rfl) (fun _ _ _ h => h) (Or.inl ⟨by rfl, ?_⟩) (by assumption) ?_
                  · intro x hSx; subst hSx; go_simp
                  try simp only [Act.put, List.setIfInBounds_toArray, List.set_cons_zero, List.set_cons_succ]
                  refine takeL (i := 11) (v := .bool true) rfl (by kernel_rfl) (by kernel_rfl) (by kernel_rfl) (fun _ _ _ h => h) (Or.inl ⟨by rfl, ?_⟩) (by assumption) ?_
                  · intro x hSx; subst hSx; go_simp
                  try simp only [Act.put, List.setIfInBounds_toArray, List.set_cons_zero, List.set_cons_succ]
                  refine takeL (i := 12) (v := .slice (some ⟨ga, oa, none⟩) l.length cap) rfl (by kernel_rfl) (by kernel_rfl) (by kernel_rfl) (fun _ _ _ h => h) (Or.inl ⟨by rfl, ?_⟩) (by assumption) ?_
                  · intro x hSx; subst hSx; go_simp
                  try simp only [Act.put, List.setIfInBounds_toArray, List.set_cons_zero, List.set_cons_succ]
                  refine takeL (i := 13) (v := .int .i64 (k : Int)) rfl (by kernel_rfl) (by kernel_rfl) (by kernel_rfl) (fun _ _ _ h => h) (Or.inl ⟨by rfl, ?_⟩) (by assumption) ?_
                  · intro x hSx; subst hSx; go_simp
                  try simp only [Act.put, List.setIfInBounds_toArray, List.set_cons_zero, List.set_cons_succ]
                  refine takeL (i := 14) (v := .pointer (some ⟨ga, oa + k * 9, none⟩)) rfl (by kernel_rfl) (by kernel_rfl) (by kernel_rfl) (fun _ _ _ h => h) (Or.inl ⟨by rfl, ?_⟩) (by assumption) ?_
                  · intro x hSx; subst hSx; go_simp
                  try simp only [Act.put, List.setIfInBounds_toArray, List.set_cons_zero, List.set_cons_succ]
                  refine takeL (i := 15) (v := .agg #[.int .i64 sq2, .int .i64 K2, .int .i64 V2, .int .i64 U2, .int .i64 N2, .int .i64 FL2, .string US2, .string NM2, .string TX2]) rfl (by kernel_rfl) (by kernel_rfl) (by kernel_rfl) (fun _ _ _ h => h) (Or.inl ⟨by rfl, ?_⟩) (by assumption) ?_
                  · intro x hSx; subst hSx; go_simp
                  try simp only [Act.put, List.setIfInBounds_toArray, List.set_cons_zero, List.set_cons_succ]
                  refine takeL (i := 16) (v := .slice (some ⟨ga, oa, none⟩) l.length cap) rfl (by kernel_rfl) (by kernel_rfl) (by kernel_rfl) (fun _ _ _ h => h) (Or.inl ⟨by rfl, ?_⟩) (by assumption) ?_
                  · intro x hSx; subst hSx; go_simp
                  try simp only [Act.put, List.setIfInBounds_toArray, List.set_cons_zero, List.set_cons_succ]
                  refine takeL (i := 17) (v := .int .i64 (i : Int)) rfl (by kernel_rfl) (by kernel_rfl) (by kernel_rfl) (fun _ _ _ h => h) (Or.inl ⟨by rfl, ?_⟩) (by assumption) ?_
                  · intro x hSx; subst hSx; go_simp
                  try simp only [Act.put, List.setIfInBounds_toArray, List.set_cons_zero, List.set_cons_succ]
                  refine takeL (i := 18) (v := .pointer (some ⟨ga, oa + i * 9, none⟩)) rfl (by kernel_rfl) (by kernel_rfl) (by kernel_rfl) (fun _ _ _ h => h) (Or.inl ⟨by rfl, ?_⟩) (by assumption) ?_
                  · intro x hSx; subst hSx; go_simp
                  try simp only [Act.put, List.setIfInBounds_toArray, List.set_cons_zero, List.set_cons_succ]
                  refine takeL (i := 19) (v := .agg #[.int .i64 sq2, .int .i64 K, .int .i64 V, .int .i64 U, .int .i64 N, .int .i64 FL, .string US, .string NM, .string TX]) rfl (by kernel_rfl) (by kernel_rfl) (by kernel_rfl) (fun _ _ _ h => h) (Or.inl ⟨by rfl, ?_⟩) (by assumption) ?_
                  · intro x hSx; subst hSx; go_simp
                  try simp only [Act.put, List.setIfInBounds_toArray, List.set_cons_zero, List.set_cons_succ]
                  refine takeL (i := 20) (v := .bool true) rfl (by kernel_rfl) (by kernel_rfl) (by kernel_rfl) (fun _ _ _ h => h) (Or.inl ⟨by rfl, ?_⟩) (by assumption) ?_
                  · intro x hSx; subst hSx; go_simp; simp only [ba_same]; exact fun h0 h1 h2 h3 h4 h5 h6 h7 => HNE.out ⟨h0, h1, h2, h3, h4, h5, h6, h7⟩
                  try simp only [Act.put, List.setIfInBounds_toArray, List.set_cons_zero, List.set_cons_succ]
                  refine takeL (i := 21) (v := .bool true) rfl (by kernel_rfl) (by kernel_rfl) (by kernel_rfl) (fun _ _ _ h => h) (Or.inl ⟨by rfl, ?_⟩) (by assumption) ?_
                  · intro x hSx; subst hSx; go_simp
                  try simp only [Act.put, List.setIfInBounds_toArray, List.set_cons_zero, List.set_cons_succ]
                  refine wpAnyH_done (by kernel_rfl) ?_ _
                  go_wp2
                  go_ret
                  exact ⟨by rw [HE.out]; rfl, bD⟩
              · have hq2 : (sq2 == sq) = false := beq_eq_false_iff_ne.2 hq
                go_wp2_with fail
                refine wp_region_held_drew (S := fun x => wr.drew = x) (by kernel_rfl) rfl (fun hHeld => ?_)
                refine takeL (i := 0) (v := .slice (some ⟨ga, oa, none⟩) l.length cap) rfl (by kernel_rfl) (by kernel_rfl) (by kernel_rfl) (fun _ _ _ h => h) (Or.inl ⟨by rfl, ?_⟩) (by assumption) ?_
                · intro x hSx; subst hSx; go_simp
                try simp only [Act.put, List.setIfInBounds_toArray, List.set_cons_zero, List.set_cons_succ]
                refine takeL (i := 1) (v := .int .i64 (k : Int)) rfl (by kernel_rfl) (by kernel_rfl) (by kernel_rfl) (fun _ _ _ h => h) (Or.inl ⟨by rfl, ?_⟩) (by assumption) ?_
                · intro x hSx; subst hSx; go_simp
                try simp only [Act.put, List.setIfInBounds_toArray, List.set_cons_zero, List.set_cons_succ]
                refine takeL (i := 2) (v := .pointer (some ⟨ga, oa + k * 9, none⟩)) rfl (by kernel_rfl) (by kernel_rfl) (by kernel_rfl) (fun _ _ _ h => h) (Or.inl ⟨by rfl, ?_⟩) (by assumption) ?_
                · intro x hSx; subst hSx; go_simp
                try simp only [Act.put, List.setIfInBounds_toArray, List.set_cons_zero, List.set_cons_succ]
                refine takeL (i := 3) (v := .pointer (some ⟨ga, oa + k * 9, none⟩)) rfl (by kernel_rfl) (by kernel_rfl) (by kernel_rfl) (fun _ _ _ h => h) (Or.inl ⟨by rfl, ?_⟩) (by assumption) ?_
                · intro x hSx; subst hSx; go_simp
                try simp only [Act.put, List.setIfInBounds_toArray, List.set_cons_zero, List.set_cons_succ]
                refine takeL (i := 4) (v := .int .i64 sq2) rfl (by kernel_rfl) (by kernel_rfl) (by kernel_rfl) (fun _ _ _ h => h) (Or.inl ⟨by rfl, ?_⟩) (by assumption) ?_
                · intro x hSx; subst hSx; go_simp
                try simp only [Act.put, List.setIfInBounds_toArray, List.set_cons_zero, List.set_cons_succ]
                refine takeL (i := 5) (v := .slice (some ⟨ga, oa, none⟩) l.length cap) rfl (by kernel_rfl) (by kernel_rfl) (by kernel_rfl) (fun _ _ _ h => h) (Or.inl ⟨by rfl, ?_⟩) (by assumption) ?_
                · intro x hSx; subst hSx; go_simp
                try simp only [Act.put, List.setIfInBounds_toArray, List.set_cons_zero, List.set_cons_succ]
                refine takeL (i := 6) (v := .int .i64 (i : Int)) rfl (by kernel_rfl) (by kernel_rfl) (by kernel_rfl) (fun _ _ _ h => h) (Or.inl ⟨by rfl, ?_⟩) (by assumption) ?_
                · intro x hSx; subst hSx; go_simp
                try simp only [Act.put, List.setIfInBounds_toArray, List.set_cons_zero, List.set_cons_succ]
                refine takeL (i := 7) (v := .pointer (some ⟨ga, oa + i * 9, none⟩)) rfl (by kernel_rfl) (by kernel_rfl) (by kernel_rfl) (fun _ _ _ h => h) (Or.inl ⟨by rfl, ?_⟩) (by assumption) ?_
                · intro x hSx; subst hSx; go_simp
                try simp only [Act.put, List.setIfInBounds_toArray, List.set_cons_zero, List.set_cons_succ]
                refine takeL (i := 8) (v := .pointer (some ⟨ga, oa + i * 9, none⟩)) rfl (by kernel_rfl) (by kernel_rfl) (by kernel_rfl) (fun _ _ _ h => h) (Or.inl ⟨by rfl, ?_⟩) (by assumption) ?_
                · intro x hSx; subst hSx; go_simp
                try simp only [Act.put, List.setIfInBounds_toArray, List.set_cons_zero, List.set_cons_succ]
                refine takeL (i := 9) (v := .int .i64 sq) rfl (by kernel_rfl) (by kernel_rfl) (by kernel_rfl) (fun _ _ _ h => h) (Or.inl ⟨by rfl, ?_⟩) (by assumption) ?_
                · intro x hSx; subst hSx; go_simp
                try simp only [Act.put, List.setIfInBounds_toArray, List.set_cons_zero, List.set_cons_succ]
                refine takeL (i := 10) (v := .bool false) rfl (by kernel_rfl) (by kernel_rfl) (by kernel_rfl) (fun _ _ _ h => h) (Or.inl ⟨by rfl, ?_⟩) (by assumption) ?_
                · intro x hSx; subst hSx; go_simp
                try simp only [Act.put, List.setIfInBounds_toArray, List.set_cons_zero, List.set_cons_succ]
                refine takeL (i := 11) (v := .bool false) rfl (by kernel_rfl) (by kernel_rfl) (by kernel_rfl) (fun _ _ _ h => h) (Or.inl ⟨by rfl, ?_⟩) (by assumption) ?_
                · intro x hSx; subst hSx; go_simp
                try simp only [Act.put, List.setIfInBounds_toArray, List.set_cons_zero, List.set_cons_succ]
                refine takeL (i := 12) (v := undef) rfl (by kernel_rfl) (by kernel_rfl) (by kernel_rfl) (fun _ _ _ h => h) (Or.inr ⟨by rfl, rfl⟩) (by assumption) ?_
                try simp only [Act.put, List.setIfInBounds_toArray, List.set_cons_zero, List.set_cons_succ]
                refine takeL (i := 13) (v := undef) rfl (by kernel_rfl) (by kernel_rfl) (by kernel_rfl) (fun _ _ _ h => h) (Or.inr ⟨by rfl, rfl⟩) (by assumption) ?_
                try simp only [Act.put, List.setIfInBounds_toArray, List.set_cons_zero, List.set_cons_succ]
                refine takeL (i := 14) (v := undef) rfl (by kernel_rfl) (by kernel_rfl) (by kernel_rfl) (fun _ _ _ h => h) (Or.inr ⟨by rfl, rfl⟩) (by assumption) ?_
                try simp only [Act.put, List.setIfInBounds_toArray, List.set_cons_zero, List.set_cons_succ]
                refine takeL (i := 15) (v := undef) rfl (by kernel_rfl) (by kernel_rfl) (by kernel_rfl) (fun _ _ _ h => h) (Or.inr ⟨by rfl, rfl⟩) (by assumption) ?_
                try simp only [Act.put, List.setIfInBounds_toArray, List.set_cons_zero, List.set_cons_succ]
                refine takeL (i := 16) (v := undef) rfl (by kernel_rfl) (by kernel_rfl) (by kernel_rfl) (fun _ _ _ h => h) (Or.inr ⟨by rfl, rfl⟩) (by assumption) ?_
                try simp only [Act.put, List.setIfInBounds_toArray, List.set_cons_zero, List.set_cons_succ]
                refine takeL (i := 17) (v := undef) rfl (by kernel_rfl) (by kernel_rfl) (by kernel_rfl) (fun _ _ _ h => h) (Or.inr ⟨by rfl, rfl⟩) (by assumption) ?_
                try simp only [Act.put, List.setIfInBounds_toArray, List.set_cons_zero, List.set_cons_succ]
                refine takeL (i := 18) (v := undef) rfl (by kernel_rfl) (by kernel_rfl) (by kernel_rfl) (fun _ _ _ h => h) (Or.inr ⟨by rfl, rfl⟩) (by assumption) ?_
                try simp only [Act.put, List.setIfInBounds_toArray, List.set_cons_zero, List.set_cons_succ]
                refine takeL (i := 19) (v := undef) rfl (by kernel_rfl) (by kernel_rfl) (by kernel_rfl) (fun _ _ _ h => h) (Or.inr ⟨by rfl, rfl⟩) (by assumption) ?_
                try simp only [Act.put, List.setIfInBounds_toArray, List.set_cons_zero, List.set_cons_succ]
                refine takeL (i := 20) (v := undef) rfl (by kernel_rfl) (by kernel_rfl) (by kernel_rfl) (fun _ _ _ h => h) (Or.inr ⟨by rfl, rfl⟩) (by assumption) ?_
                try simp only [Act.put, List.setIfInBounds_toArray, List.set_cons_zero, List.set_cons_succ]
                refine takeL (i := 21) (v := .bool false) rfl (by kernel_rfl) (by kernel_rfl) (by kernel_rfl) (fun _ _ _ h => h) (Or.inl ⟨by rfl, ?_⟩) (by assumption) ?_
                · intro x hSx; subst hSx; go_simp
                try simp only [Act.put, List.setIfInBounds_toArray, List.set_cons_zero, List.set_cons_succ]
                refine wpAnyH_done (by kernel_rfl) ?_ _
                go_wp2
                exact ⟨⟨k + 1, by omega, by go_num, fun j y hj hjk e => by
                  by_cases c : j = k
                  · subst c; have := HY.out; rw [hj] at this; cases this; exact absurd e hq
                  · exact HU.out j y hj (by omega) e, bD⟩, by first | omega | (simp [intOf]; omega)⟩
            · have hge : ¬ (k : Int) < (i : Int) := by omega
              have hki : k = i := by omega
              go_wp2
              exact ⟨⟨i + 1, by omega, by go_num, HG.out.next HX.out HOK.out (fun j y hj hji e => HU.out j y hj (by omega) e), hb⟩, by first | omega | (simp [intOf]; omega)⟩
        · have HE : Hid (D = false) := by rw [← HD.out]; exact items_bad HX.out (fun c => hok c.2)
          rw [decide_eq_false hok] at hRO
          unfold Rc.v at hRO
          simp only at hRO
          have HRO := Lib.hid hRO
          clear hRO hok
          go_wp2_with (first | (go_at_call 56; refine (l01In_yes _ _ _ _ hs1 hs2).mono ?_; rintro e w5 ⟨rfl, rfl⟩) | (go_at_call 15; refine (HRO.out _).mono ?_; rintro e w6 ⟨rfl, k6⟩))
          go_ret
          exact ⟨by rw [HE.out]; rfl, hb.trans (k6.mono hb.size)⟩
      · have HE : Hid (D = false) := by rw [← HD.out]; exact items_bad HX.out (fun c => hs c.1)
        go_wp2_with (go_at_call 56; refine (l01In_no _ _ _ _ hs).mono ?_; rintro e w5 ⟨rfl, rfl⟩)
        go_ret
        exact ⟨by rw [HE.out]; rfl, hb⟩
    · have hge : ¬ (i : Int) < (l.length : Int) := by omega
      have hil : i = l.length := by omega
      have HE : Hid (D = decide ((l.length : Int) ≤ 200)) := by
        rw [← HD.out]
        have h := HG.out
        rw [hil] at h
        rw [h.done]
        exact decide_eq_decide.2 (by omega)
      go_wp2
      go_ret
      exact ⟨by rw [HE.out]; rfl, hb⟩

end Go.Proofs.Ythlbokfajiahpaa

/- The cursor of a draw: what spec.l01Byte, l01Below, l01Once, l01Text, l01Long and l01New hand back: numbers in their ranges, whatever the bytes are. -/
namespace Go.Proofs.Ythlbokfajiahpaa
open Go.RowKit

theorem i64_and255 (n : Int) : bits .and .i64 n 255 = n % 256 := by
  have h1 : (BitVec.ofInt 64 n &&& BitVec.ofInt 64 255).toNat = (BitVec.ofInt 64 n).toNat % 256 := by
    rw [BitVec.toNat_and]
    have e : (BitVec.ofInt 64 255).toNat = 2 ^ 8 - 1 := by decide
    rw [e, Nat.and_two_pow_sub_one_eq_mod]
  show IntKind.i64.wrap ((BitVec.ofInt 64 n &&& BitVec.ofInt 64 255).toNat : Int) = _
  rw [h1, BitVec.toNat_ofInt, IntWalk.i64_in _ ⟨by omega, by omega⟩]
  omega

/-- The bytes of a code can be read, and lie outside the block pc. -/
def Code (w : World) (pc : Nat) (a : Option Addr) (len : Nat) : Prop :=
  ∀ j, j < len → ∃ b off : Nat, a = some ⟨b, off, none⟩ ∧ b ≠ pc ∧ ∃ x : Nat, x < 256 ∧ w.cell? ⟨b, off + j, none⟩ = some (.int .u8 (x : Int))

/-- A cursor in the block pc over a code of len bytes. -/
structure Cur (w : World) (pc : Nat) (a : Option Addr) (len cap : Nat) : Prop where
  blk : ∃ i h : Int, w.heap[pc]? = some (.cells #[.slice a len cap, .int .i64 i, .int .i64 h] 129 (0, 0)) ∧ 0 ≤ i ∧ i ≤ len ∧ (-9223372036854775808 ≤ h ∧ h ≤ 9223372036854775807)
  code : Code w pc a len
  small : len ≤ 1048576

theorem lt_of_heap {w : World} {g : Nat} {o : Obj} (hg : w.heap[g]? = some o) : g < w.heap.size := by
  by_cases hh : g < w.heap.size
  · exact hh
  · rw [Array.getElem?_eq_none (by omega)] at hg; cases hg

theorem Code.grown {w w' : World} {pc : Nat} {a : Option Addr} {len : Nat} (h : Code w pc a len) (hg : w.grownBy w' (some pc)) : Code w' pc a len := by
  intro j hj
  obtain ⟨b, off, ha, hb, x, hx, hc⟩ := h j hj
  exact ⟨b, off, ha, hb, x, hx, hg.cell hc (fun e => hb (Option.some.inj e))⟩

/-- What a draw of one byte leaves. -/
def ByteR (pc : Nat) (a : Option Addr) (len cap : Nat) (w : World) (e : Ending) (w' : World) : Prop :=
  ∃ x : Nat, x < 256 ∧ e = .returned (.int .i64 (x : Int)) ∧ Cur w' pc a len cap ∧ w.grownBy w' (some pc)

theorem grownBy_setCell (w : World) (pc i : Nat) (v : Value) : w.grownBy (w.setCell ⟨pc, i, none⟩ v) (some pc) :=
  have b := (Below.refl 0 w).setCell (p := ⟨pc, i, none⟩) (Nat.zero_le _) v
  ⟨b.os, b.tape, b.output, b.size, fun k _ hne => Below.heap_setCell w _ _ _ (fun e => hne (by rw [e]))⟩

theorem grownBy_drewN (w : World) (n : Nat) (r : Option Nat) : w.grownBy (w.drewN n) r := ⟨rfl, rfl, rfl, Nat.le_refl _, fun _ _ _ => rfl⟩

theorem wrap64_range (n : Int) : -9223372036854775808 ≤ wrap64 n ∧ wrap64 n ≤ 9223372036854775807 := by
  unfold wrap64; omega

set_option maxRecDepth 100000 in
set_option maxHeartbeats 2000000 in
theorem byte_any (pc : Nat) (a : Option Addr) (len cap : Nat) (w : World) (hc : Cur w pc a len cap) :
    Calls Try.prog 62 #[.pointer (some ⟨pc, 0, none⟩)] w fun e w' => ByteR pc a len cap w e w' := by
  obtain ⟨i, h, hblk, hi0, hi1, hh1, hh2⟩ := hc.blk
  have hcode := hc.code
  have hsm := hc.small
  have c0 : w.cell? ⟨pc, 0, none⟩ = some (.slice a len cap) := by rw [Joins.cell_of_block hblk]; rfl
  have c1 : w.cell? ⟨pc, 1, none⟩ = some (.int .i64 i) := by rw [Joins.cell_of_block hblk]; rfl
  have c2 : w.cell? ⟨pc, 2, none⟩ = some (.int .i64 h) := by rw [Joins.cell_of_block hblk]; rfl
  have f1 : w.frozen? ⟨pc, 1, none⟩ = false := Joins.unfrozen_of_block hblk 1
  have f2 : w.frozen? ⟨pc, 2, none⟩ = false := Joins.unfrozen_of_block hblk 2
  go_enter Try.func62, Try.ntmps62
  go_wp2
  have hHb := wrap64_range (wrap64 (h * 6364136223846793005) + 1442695040888963407)
  generalize wrap64 (wrap64 (h * 6364136223846793005) + 1442695040888963407) = H at hHb ⊢
  have hg1 := grownBy_setCell w pc 2 (.int .i64 H)
  have hblk1 : (w.setCell ⟨pc, 2, none⟩ (.int .i64 H)).heap[pc]? = some (.cells #[.slice a len cap, .int .i64 i, .int .i64 H] 129 (0, 0)) := Joins.block_setCell hblk _
  have hcode1 := hcode.grown hg1
  clear c0 c1 c2 f1 f2
  generalize w.setCell ⟨pc, 2, none⟩ (.int .i64 H) = w1 at *
  have c0 : w1.cell? ⟨pc, 0, none⟩ = some (.slice a len cap) := by rw [Joins.cell_of_block hblk1]; rfl
  have c1 : w1.cell? ⟨pc, 1, none⟩ = some (.int .i64 i) := by rw [Joins.cell_of_block hblk1]; rfl
  have c2 : w1.cell? ⟨pc, 2, none⟩ = some (.int .i64 H) := by rw [Joins.cell_of_block hblk1]; rfl
  have f1 : w1.frozen? ⟨pc, 1, none⟩ = false := Joins.unfrozen_of_block hblk1 1
  have HB : Hid (w1.heap[pc]? = some (.cells #[.slice a len cap, .int .i64 i, .int .i64 H] 129 (0, 0))) := hblk1
  have HC : Hid (Code w1 pc a len) := hcode1
  clear hblk1 hblk hcode1 hcode hc
  go_quiet (fail)
  go_wp2
  rw [i64_and255]
  have hx0 : 0 ≤ bits .xor .i64 (H / 8589934592) (H / 35184372088832) % 256 ∧ bits .xor .i64 (H / 8589934592) (H / 35184372088832) % 256 < 256 := by omega
  generalize bits .xor .i64 (H / 8589934592) (H / 35184372088832) % 256 = x at hx0 ⊢
  obtain ⟨hx1, hx2⟩ := hx0
  by_cases hlt : i < (len : Int)
  · have hij : i.toNat < len := by omega
    obtain ⟨b, off, rfl, hbne, y, hy, hcy⟩ := HC.out i.toNat hij
    obtain ⟨k, rfl⟩ := Int.eq_ofNat_of_zero_le hi0
    rw [Int.toNat_natCast] at hcy
    go_quiet (fail)
    go_wp2
    go_quiet (fail)
    go_wp2
    rw [i64_and255]
    go_ret
    have hg2 := fun n => (grownBy_drewN w1 n (some pc)).trans (grownBy_setCell _ pc 1 (.int .i64 ((k : Int) + 1)))
    exact ⟨((x + (y : Int)) % 256).toNat, by omega, by rw [Int.toNat_of_nonneg (by omega)]; rfl,
      ⟨⟨(k : Int) + 1, H, Joins.block_setCell HB.out _, by omega, by omega, hHb⟩, HC.out.grown (hg2 _), hsm⟩, hg1.trans (hg2 _)⟩
  · go_quiet (fail)
    go_wp2
    go_ret
    have hg2 := fun n => grownBy_drewN w1 n (some pc)
    exact ⟨x.toNat, by omega, by rw [Int.toNat_of_nonneg (by omega)]; rfl, ⟨⟨i, H, HB.out, by omega, by omega, hHb⟩, HC.out.grown (hg2 _), hsm⟩, hg1.trans (hg2 _)⟩

theorem ByteR.after {pc : Nat} {a : Option Addr} {len cap : Nat} {w0 w w' : World} {e : Ending} (h0 : w0.grownBy w (some pc)) (h : ByteR pc a len cap w e w') :
    ∃ x : Nat, x < 256 ∧ e = .returned (.int .i64 (x : Int)) ∧ Cur w' pc a len cap ∧ w0.grownBy w' (some pc) := by
  obtain ⟨x, hx, he, hc, hg⟩ := h
  exact ⟨x, hx, he, hc, h0.trans hg⟩

/-- What a draw of a number below n leaves. -/
def BelowR (n : Int) (pc : Nat) (a : Option Addr) (len cap : Nat) (w : World) (e : Ending) (w' : World) : Prop :=
  ∃ x : Nat, (0 < n → (x : Int) < n) ∧ (n ≤ 0 → x = 0) ∧ e = .returned (.int .i64 (x : Int)) ∧ Cur w' pc a len cap ∧ w.grownBy w' (some pc)

set_option maxRecDepth 100000 in
set_option maxHeartbeats 1000000 in
theorem below_any (n : Int) (pc : Nat) (a : Option Addr) (len cap : Nat) (w : World) (hc : Cur w pc a len cap) (hn : n ≤ 9223372036854775807) :
    Calls Try.prog 51 #[.pointer (some ⟨pc, 0, none⟩), .int .i64 n] w fun e w' => BelowR n pc a len cap w e w' := by
  by_cases h0 : n ≤ 0
  · go_enter Try.func51, Try.ntmps51
    go_wp2
    go_ret
    exact ⟨0, by omega, by omega, rfl, hc, World.grownBy.refl _ _⟩
  · by_cases h1 : n ≤ 256
    · go_enter Try.func51, Try.ntmps51
      go_wp2_with (go_at_call 62; refine (byte_any pc a len cap _ hc).mono ?_; rintro e w1 ⟨x, hx, rfl, hc1, hg1⟩)
      go_ret
      have hm1 := Int.emod_nonneg (x : Int) (show n ≠ 0 by omega)
      have hm2 := Int.emod_lt_of_pos (x : Int) (show 0 < n by omega)
      exact ⟨((x : Int) % n).toNat, by omega, by omega, by rw [Int.toNat_of_nonneg hm1]; rfl, hc1, hg1⟩
    · go_enter Try.func51, Try.ntmps51
      go_wp2_with fail
      refine (byte_any pc a len cap _ hc).mono ?_
      rintro e w1 ⟨x, hx, rfl, hc1, hg1⟩
      go_wp2_with fail
      refine (byte_any pc a len cap _ hc1).mono ?_
      rintro e w2 ⟨y, hy, rfl, hc2, hg2⟩
      go_wp2_with fail
      refine (byte_any pc a len cap _ hc2).mono ?_
      rintro e w3 ⟨z, hz, rfl, hc3, hg3⟩
      go_wp2_with fail
      refine (byte_any pc a len cap _ hc3).mono ?_
      rintro e w4 ⟨u, hu, rfl, hc4, hg4⟩
      go_wp2
      go_ret
      have hg : w.grownBy w4 (some pc) := ((hg1.trans hg2).trans hg3).trans hg4
      generalize hX : (x : Int) * 16777216 + (y : Int) * 65536 + (z : Int) * 256 + (u : Int) = X
      have hX0 : 0 ≤ X := by omega
      have hm1 := Int.emod_nonneg X (show n ≠ 0 by omega)
      have hm2 := Int.emod_lt_of_pos X (show 0 < n by omega)
      exact ⟨(X % n).toNat, by omega, by omega, by rw [Int.toNat_of_nonneg hm1, ← hX]; rfl, hc4, hg⟩

theorem once_any (n : Int) (pc : Nat) (a : Option Addr) (len cap : Nat) (w : World) (hc : Cur w pc a len cap) (hn : n ≤ 9223372036854775807) :
    Calls Try.prog 81 #[.pointer (some ⟨pc, 0, none⟩), .int .i64 n] w fun e w' => (e = .returned (.bool true) ∨ e = .returned (.bool false)) ∧ Cur w' pc a len cap ∧ w.grownBy w' (some pc) := by
  go_enter Try.func81, Try.ntmps81
  go_wp2_with (go_at_call 51; refine (below_any n pc a len cap _ hc hn).mono ?_; rintro e w1 ⟨x, hx, hx2, rfl, hc1, hg1⟩)
  go_ret
  refine ⟨?_, hc1, hg1⟩
  by_cases h0 : x = 0
  · left; rw [h0]; rfl
  · right
    have : ((x : Int) == 0) = false := beq_eq_false_iff_ne.2 (by omega)
    show Ending.returned (.bool ((x : Int) == 0)) = _
    rw [this]

end Go.Proofs.Ythlbokfajiahpaa

/- What spec.l01Long hands back. -/
namespace Go.Proofs.Ythlbokfajiahpaa
open Go.RowKit

theorem Buf.stored {B : Nat} {w0 w : World} {g cap : Nat} {l : List UInt8} (h : Buf B w0 w (.slice (some ⟨g, 0, none⟩) l.length cap) l) (j : Nat) (t : UInt8) :
    Buf B w0 (w.setCell ⟨g, j, none⟩ (.int .u8 (t.toNat : Int))) (.slice (some ⟨g, 0, none⟩) l.length cap) (l.set j t) := by
  have hst := h.own.stored j (.int .u8 (t.toNat : Int))
  have e : bytesV (l.set j t) = (bytesV l).set j (.int .u8 (t.toNat : Int)) := by simp [bytesV, List.map_set]
  refine ⟨?_, h.bel.setCell (h.own.lt g rfl).1 _, by have := h.le; simpa using this⟩
  have hl : (l.set j t).length = l.length := by simp
  rw [hl, e]
  exact hst.1

/-- make([]byte, n). -/
theorem wpList_make_zeros {w : World} {ops : Array Oper} {rest : List Oper} {o : Oper} {a : Act} {Q : Exit → Act → World → Prop} (hg : o.guard = none) (l c : Operand) (hop : o.op = Op.makeSlice 22 l c)
    (kl kc : IntKind) (L C : Int) (n : Nat) (hl : a.eval l = .int kl L) (hc : a.eval c = .int kc C) (hL : L = (n : Int)) (hC : C = (n : Int)) (hn : n ≤ 281474976710656)
    (h : ∀ w' g, Buf w.heap.size w w' (.slice (some ⟨g, 0, none⟩) n n) (List.replicate n 0) → wpList Try.prog ops Q rest (a.put o.dst (.slice (some ⟨g, 0, none⟩) n n)) w') : wpList Try.prog ops Q (o :: rest) a w := by
  obtain ⟨i0, hi, hz0, hz1, hz2⟩ := info_parts Try.info_u8
  refine wpList_make_full w hg l c 22 hop w.heap.size 5 i0 (.int .u8 0) 1 Try.underlying22 hi hz0 hz1 kl kc L C n hl hc hL hC (by rw [hz2]; omega) (by unfold maxLen; omega) (Nat.le_refl _) ?_
  intro w' hown hgrow
  refine h w' w.heap.size ⟨?_, (Below.refl _ _).grown hgrow (Nat.le_refl _) (fun k hk => by cases hk), hgrow.size⟩
  have e : (madeCells (Value.int .u8 0).cells (n * 1)).toList = bytesV (List.replicate n 0) := by
    rw [Nat.mul_one]
    show (madeCells #[Value.int .u8 0] n).toList = _
    rw [toList_madeCells_one]
    simp [bytesV]
  rw [e] at hown
  simpa using hown

def longTo (n k : Nat) (x : UInt8) : List UInt8 := List.replicate k x ++ List.replicate (n - k) 0
theorem longTo_length {n k : Nat} {x : UInt8} (h : k ≤ n) : (longTo n k x).length = n := by simp [longTo]; omega
theorem longTo_set {n k : Nat} {x : UInt8} (h : k < n) : (longTo n k x).set k x = longTo n (k + 1) x := by
  unfold longTo
  rw [List.set_append_right _ _ (by simp)]
  simp only [List.length_replicate, Nat.sub_self]
  rw [show n - k = (n - (k + 1)) + 1 by omega, List.replicate_succ, List.set_cons_zero, List.replicate_succ', List.append_assoc]
  rfl
theorem longTo_all (n : Nat) (x : UInt8) : longTo n n x = List.replicate n x := by simp [longTo]

set_option maxRecDepth 100000 in
set_option maxHeartbeats 1000000 in
theorem long_any (n : Nat) (x : UInt8) (w : World) (hn : n ≤ 1048576) :
    Calls Try.prog 85 #[.int .i64 (n : Int), .int .u8 (x.toNat : Int)] w fun e w' => e = .returned (.string ⟨(List.replicate n x).toArray⟩) ∧ Below w.heap.size w w' := by
  go_enter Try.func85, Try.ntmps85
  go_wp2_with (at_make; refine wpList_make_zeros rfl _ _ rfl .i64 .i64 _ _ n rfl rfl rfl rfl (by omega) ?_; intro w1 g hb1)
  go_loopw [6] (fun iv wr => ∃ k : Nat, k ≤ n ∧ iv = .int .i64 (k : Int) ∧ Buf w.heap.size w wr (.slice (some ⟨g, 0, none⟩) n n) (longTo n k x)) (fun iv _ => n - (intOf iv).toNat)
  case atStart => exact ⟨0, by omega, rfl, by simpa [longTo] using hb1⟩
  case round =>
    obtain ⟨k, hk, rfl, hb⟩ := hrel
    by_cases hlt : k < n
    · have hml := longTo_length (x := x) hk
      have hms : Hid ((longTo n k x).set k x = longTo n (k + 1) x) := longTo_set hlt
      have hbm : Buf w.heap.size w wr (.slice (some ⟨g, 0, none⟩) (longTo n k x).length n) (longTo n k x) := by rw [hml]; exact hb
      have hc1 : wr.cell? ⟨g, k, none⟩ = some (.int .u8 (((longTo n k x)[k]'(by omega)).toNat : Int)) := by
        rw [hbm.own.cellAt k (by omega)]
        simp only [bytesV, List.getElem?_map]
        rw [List.getElem?_eq_getElem (by omega)]
        rfl
      have hf1 : wr.frozen? ⟨g, k, none⟩ = false := hbm.own.frozenAt k
      have hst := hbm.stored k x
      rw [hms.out, hml] at hst
      generalize (longTo n k x)[k]'(by omega) = t at hc1
      clear hml hbm
      go_wp2
      go_roundw
      case rel => exact ⟨k + 1, by omega, by go_num, hst⟩
      case measure => simp [intOf]; omega
    · have hfin : Hid (k = n) := by show k = n; omega
      have hcv := hb.toString
      go_wp2
      go_ret
      exact ⟨by rw [hfin.out, longTo_all]; rfl, hb.bel⟩

end Go.Proofs.Ythlbokfajiahpaa

/- A cursor made, and what is drawn with it: what spec.l01New, l01Text, l01Long and l01PickInt hand back. -/
namespace Go.Proofs.Ythlbokfajiahpaa
open Go.RowKit

theorem i64_and30 (n : Int) : bits .and .i64 n 1073741823 = n % 1073741824 := by
  have h1 : (BitVec.ofInt 64 n &&& BitVec.ofInt 64 1073741823).toNat = (BitVec.ofInt 64 n).toNat % 2 ^ 30 := by
    rw [BitVec.toNat_and]
    have e : (BitVec.ofInt 64 1073741823).toNat = 2 ^ 30 - 1 := by decide
    rw [e, Nat.and_two_pow_sub_one_eq_mod]
  show IntKind.i64.wrap ((BitVec.ofInt 64 n &&& BitVec.ofInt 64 1073741823).toNat : Int) = _
  rw [h1, BitVec.toNat_ofInt, IntWalk.i64_in _ ⟨by omega, by omega⟩]
  omega

/-- The bytes of a slice that can be read. -/
def CodeIn (w : World) (a : Option Addr) (len : Nat) : Prop :=
  ∀ j, j < len → ∃ b off : Nat, a = some ⟨b, off, none⟩ ∧ b < w.heap.size ∧ ∃ x : Nat, x < 256 ∧ w.cell? ⟨b, off + j, none⟩ = some (.int .u8 (x : Int))

theorem CodeIn.later {w w' : World} {a : Option Addr} {len : Nat} (h : CodeIn w a len) (hb : Below w.heap.size w w') : CodeIn w' a len := by
  intro j hj
  obtain ⟨b, off, ha, hlt, x, hx, hc⟩ := h j hj
  exact ⟨b, off, ha, Nat.lt_of_lt_of_le hlt hb.size, x, hx, (hb.cell (p := ⟨b, off + j, none⟩) hlt).trans hc⟩

theorem codeIn_of_row {W : World} {x : Addr} {len cap : Nat} {zs : List Int} (hl : len ≤ cap) (hz : zs.length = cap) (hcell : ∀ i, i < zs.length → W.cell? (x.add i) = some (.int .u8 (zs.getD i 0)))
    (hwz : ∀ n ∈ zs, (Lit.int .u8 n).wf = true) : CodeIn W (some x) len := by
  intro j hj
  obtain ⟨b, off, spot⟩ := x
  have hc0 := hcell 0 (by omega)
  have hspot : spot = none := by simpa [Addr.add] using World.cell?_spot hc0
  subst hspot
  have hc := hcell j (by omega)
  have hm : zs.getD j 0 ∈ zs := by
    rw [List.getD_eq_getElem?_getD, List.getElem?_eq_getElem (show j < zs.length by omega)]
    exact List.getElem_mem _
  have hb := bounds_u8 (hwz _ hm)
  have hc2 : W.cell? ⟨b, off + j, none⟩ = some (.int .u8 (zs.getD j 0)) := by rw [Addr.add_lit] at hc; exact hc
  refine ⟨b, off, rfl, World.block_lt_of_cell? W _ hc2, (zs.getD j 0).toNat, by omega, ?_⟩
  rw [hc2, Int.toNat_of_nonneg hb.1]

/-- A new cursor. -/
def NewR (a : Option Addr) (len cap : Nat) (w : World) (e : Ending) (w' : World) : Prop :=
  ∃ pc : Nat, w.heap.size ≤ pc ∧ e = .returned (.pointer (some ⟨pc, 0, none⟩)) ∧ Cur w' pc a len cap ∧ Below w.heap.size w w'

theorem newR_mk {a : Option Addr} {len cap : Nat} {w : World} (hcode : CodeIn w a len) (hs : len ≤ 1048576) (h : Int) (h1 : -9223372036854775808 ≤ h ∧ h ≤ 9223372036854775807) :
    NewR a len cap w (.returned (.pointer (some ⟨w.heap.size, 0, none⟩))) (w.alloc (.cells #[.slice a len cap, .int .i64 0, .int .i64 h] 129)) := by
  have hb : Below w.heap.size w (w.alloc (.cells #[.slice a len cap, .int .i64 0, .int .i64 h] 129)) := (Below.refl _ _).alloc (Nat.le_refl _) _
  refine ⟨w.heap.size, Nat.le_refl _, rfl, ⟨⟨0, h, heap_alloc_new w _, by omega, by omega, h1⟩, ?_, hs⟩, hb⟩
  intro j hj
  obtain ⟨b, off, ha, hlt, x, hx, hc⟩ := hcode j hj
  exact ⟨b, off, ha, by omega, x, hx, (hb.cell (p := ⟨b, off + j, none⟩) hlt).trans hc⟩

set_option maxRecDepth 100000 in
set_option maxHeartbeats 1000000 in
theorem new_any (a : Option Addr) (len cap : Nat) (w : World) (hcode : CodeIn w a len) (hs : len ≤ 1048576) :
    Calls Try.prog 47 #[.slice a len cap] w fun e w' => NewR a len cap w e w' := by
  go_enter Try.func47, Try.ntmps47
  go_wp2
  go_loop [3, 4] (fun hv iv => ∃ (k : Nat) (h : Int), k ≤ len ∧ iv = .int .i64 (k : Int) ∧ hv = .int .i64 h ∧ 0 ≤ h ∧ h ≤ 1073741824) (fun _ iv => len - (intOf iv).toNat)
  case atStart => exact ⟨0, _, by omega, rfl, rfl, by omega, by omega⟩
  case round =>
    obtain ⟨k, h, hk, rfl, rfl, hh0, hh1⟩ := hrel
    by_cases hlt : k < len ∧ k < 4000
    · obtain ⟨h1, h2⟩ := hlt
      obtain ⟨b, off, rfl, hb, x, hx, hc⟩ := hcode k h1
      go_wp2
      rw [i64_and30]
      go_round
      case rel => exact ⟨k + 1, _, by omega, by go_num, rfl, by omega, by omega⟩
      case measure => simp [intOf]; omega
    · by_cases h1 : k < len
      · have h2 : ¬ k < 4000 := fun h => hlt ⟨h1, h⟩
        clear hlt
        go_wp2
        go_ret
        exact newR_mk hcode hs h ⟨by omega, by omega⟩
      · clear hlt
        go_wp2
        go_ret
        exact newR_mk hcode hs h ⟨by omega, by omega⟩

theorem grownBy_below {w w1 w2 : World} {r : Option Nat} {B : Nat} (h : w.grownBy w1 r) (hb : Below B w1 w2) (hB : w.heap.size ≤ B) : w.grownBy w2 r :=
  ⟨hb.os.trans h.os, hb.tape.trans h.tape, hb.output.trans h.output, Nat.le_trans h.size hb.size, fun k hk hne => (hb.block k (Nat.lt_of_lt_of_le hk hB)).trans (h.block k hk hne)⟩

theorem Cur.below {w w' : World} {pc : Nat} {a : Option Addr} {len cap B : Nat} (h : Cur w pc a len cap) (hb : Below B w w') (hp : pc < B) (hcb : ∀ b off, a = some ⟨b, off, none⟩ → 0 < len → b < B) : Cur w' pc a len cap := by
  obtain ⟨i, hh, hblk, h1, h2, h3⟩ := h.blk
  refine ⟨⟨i, hh, (hb.block pc hp).trans hblk, h1, h2, h3⟩, ?_, h.small⟩
  intro j hj
  obtain ⟨b, off, ha, hne, x, hx, hc⟩ := h.code j hj
  exact ⟨b, off, ha, hne, x, hx, (hb.cell (p := ⟨b, off + j, none⟩) (hcb b off ha (by omega))).trans hc⟩

theorem Cur.codeLt {w : World} {pc : Nat} {a : Option Addr} {len cap : Nat} (h : Cur w pc a len cap) : ∀ b off, a = some ⟨b, off, none⟩ → 0 < len → b < w.heap.size := by
  intro b off ha h0
  obtain ⟨b', off', ha', _, x, _, hc⟩ := h.code 0 h0
  rw [ha] at ha'
  have e := Option.some.inj ha'
  injection e with e1 e2
  subst e1
  exact World.block_lt_of_cell? w _ hc

theorem Cur.lt {w : World} {pc : Nat} {a : Option Addr} {len cap : Nat} (h : Cur w pc a len cap) : pc < w.heap.size := by
  obtain ⟨i, hh, hblk, _⟩ := h.blk
  exact lt_of_heap hblk

/-- What is built anew stays where it is while the cursor goes on. -/
theorem Buf.cursor {B : Nat} {w w' : World} {v : Value} {l : List UInt8} {pc : Nat} (h : Buf B w w v l) (hg : w.grownBy w' (some pc)) (hp : pc < B) : Buf B w' w' v l := by
  refine ⟨h.own.kept hg ?_, Below.refl _ _, Nat.le_trans h.le hg.size⟩
  cases hv : v.ownBlock with
  | none => exact .inl rfl
  | some k => exact .inr (by intro e; have := (h.own.lt k hv).1; have := Option.some.inj e; omega)

theorem Buf.here {B : Nat} {w0 w : World} {v : Value} {l : List UInt8} (h : Buf B w0 w v l) : Buf B w w v l := ⟨h.own, Below.refl _ _, h.le⟩

/-- A drawn text. -/
def TextR (n : Int) (pc : Nat) (a : Option Addr) (len cap : Nat) (w : World) (e : Ending) (w' : World) : Prop :=
  ∃ s : ByteArray, s.size ≤ 5000 ∧ ((s.size : Int) = n ∨ (n ≤ 0 ∧ s.size = 0)) ∧ e = .returned (.string s) ∧ Cur w' pc a len cap ∧ w.grownBy w' (some pc)

set_option maxRecDepth 100000 in
set_option maxHeartbeats 1000000 in
theorem dtext_any (n : Int) (pc : Nat) (a : Option Addr) (len cap : Nat) (w : World) (hc : Cur w pc a len cap) (hn : n ≤ 5000) :
    Calls Try.prog 90 #[.pointer (some ⟨pc, 0, none⟩), .int .i64 n] w fun e w' => TextR n pc a len cap w e w' := by
  have hst := Buf.fresh w #[] 0 rfl (by decide)
  have hpc := hc.lt
  have hcl := hc.codeLt
  go_enter Try.func90, Try.ntmps90
  go_wp2
  go_loopw [5, 6] (fun v iv wr => ∃ (k : Nat) (l : List UInt8), (k : Int) ≤ max n 0 ∧ iv = .int .i64 (k : Int) ∧ l.length = k ∧ Buf w.heap.size wr wr v l ∧ Cur wr pc a len cap ∧ w.grownBy wr (some pc)) (fun _ iv _ => (n - intOf iv).toNat)
  case atStart => exact ⟨0, [], by omega, rfl, rfl, hst.here, hc.below hst.bel hpc hcl, grownBy_below (World.grownBy.refl _ _) hst.bel (Nat.le_refl _)⟩
  case round =>
    obtain ⟨k, l, hk, rfl, hlk, hb, hcr, hgr⟩ := hrel
    by_cases hlt : (k : Int) < n
    · go_wp2_with fail
      refine (byte_any pc a len cap _ hcr).mono ?_
      rintro e w1 ⟨x, hx, rfl, hc1, hg1⟩
      have hb1 := hb.cursor hg1 hpc
      obtain ⟨c, hc0⟩ : ∃ c : UInt8, UInt8.ofNat x = c := ⟨_, rfl⟩
      have hcn : Hid (c.toNat = x) := by rw [← hc0, UInt8.toNat_ofNat']; show x % 2 ^ 8 = x; omega
      clear hc0
      go_wp2_with (at_builtin; refine wpList_append_bytes rfl _ _ rfl _ _ l rfl (hb1.alloc _) ⟨w1.heap.size, 0, none⟩ [c] 1 rfl ?c1 ?c2 ?_)
      case c1 => exact one_new _ _ _ (by rw [hcn.out])
      case c2 => simp; omega
      intro v' w2 hb2
      have hcr2 : Cur w2 pc a len cap := hc1.below hb2.bel hpc hcl
      have hgr2 : w.grownBy w2 (some pc) := grownBy_below (hgr.trans hg1) hb2.bel (Nat.le_refl _)
      have hb3 := hb2.here
      clear hb2 hb1 hc1 hg1 hb hcr hgr
      go_wp2
      go_roundw
      case rel => exact ⟨k + 1, l ++ [c], by omega, by go_num, by simp [hlk], hb3, hcr2, hgr2⟩
      case measure => simp [intOf]; omega
    · have hcv := hb.toString
      go_wp2
      go_ret
      have hsz : (ByteArray.mk l.toArray).size = k := by simp [ByteArray.size, hlk]
      exact ⟨⟨l.toArray⟩, by rw [hsz]; omega, by rw [hsz]; omega, rfl, hcr, hgr⟩

/-- One of a list of numbers. -/
def PickR (g n pc : Nat) (a : Option Addr) (len cap : Nat) (w : World) (e : Ending) (w' : World) : Prop :=
  ∃ (j : Nat) (x : Int), j < n ∧ w.cell? ⟨g, j, none⟩ = some (.int .i64 x) ∧ e = .returned (.int .i64 x) ∧ Cur w' pc a len cap ∧ w.grownBy w' (some pc)

set_option maxRecDepth 100000 in
set_option maxHeartbeats 1000000 in
theorem pickInt_any (g n cp pc : Nat) (a : Option Addr) (len cap : Nat) (w : World) (hc : Cur w pc a len cap) (hn : 0 < n) (_hn2 : n ≤ cp) (hn3 : n ≤ 1048576) (hne : g ≠ pc)
    (hcells : ∀ j, j < n → ∃ x : Int, w.cell? ⟨g, j, none⟩ = some (.int .i64 x)) :
    Calls Try.prog 105 #[.pointer (some ⟨pc, 0, none⟩), .slice (some ⟨g, 0, none⟩) n cp] w fun e w' => PickR g n pc a len cap w e w' := by
  have HC : Hid (∀ j, j < n → ∃ x : Int, w.cell? ⟨g, j, none⟩ = some (.int .i64 x)) := hcells
  clear hcells
  go_enter Try.func105, Try.ntmps105
  go_wp2_with fail
  refine (below_any (n : Int) pc a len cap _ hc (by omega)).mono ?_
  rintro e w1 ⟨j, hj, _, rfl, hc1, hg1⟩
  have hj1 : j < n := by have := hj (by omega); omega
  obtain ⟨x, hx⟩ := HC.out j hj1
  have hx1 : w1.cell? ⟨g, j, none⟩ = some (.int .i64 x) := hg1.cell hx (fun e => hne (Option.some.inj e))
  have hj2 : (j : Int) < (n : Int) := by omega
  clear hj
  go_wp2
  go_ret
  exact ⟨j, x, hj1, hx, rfl, hc1, hg1⟩

end Go.Proofs.Ythlbokfajiahpaa
