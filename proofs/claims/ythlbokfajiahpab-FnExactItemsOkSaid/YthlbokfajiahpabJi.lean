/- Texts of our own, joined. -/
import Derived.Test.YthlbokfajiahpabJa
import Derived.Test.YthlbokfajiahpabJf
import Derived.Test.YthlbokfajiahpabJh
import Derived.Test.YthlbokfajiahpabJg
import Derived.Test.YthlbokfajiahpabJb
import Derived.Laws.Concat
import Derived.WalkSpells
import Derived.WalkSmall
import Derived.Maps.AppendAt
import Derived.Deep.QuietTactic
import Derived.BigQuiet
import Derived.Deep.RegionHeld3
/- What records tell: the program's ItemsOk. -/
namespace Go.Proofs.Ythlbokfajiahpab
open Go.RowKit

theorem run_makeMap_hint {P : Program} {t k e : TypeId} (ht : P.underlying t = some (.map k e)) (n : Int) (w : World) : (Instr.makeMap t (some (.int .i64 n))).run P w = .ok (.map (some w.heap.size)) (w.alloc (.map #[] 0)) := by
  simp [Instr.makeMap, run_underlying ht, asInt, asIntOf, Result.andThen]

theorem wf_of {x : Int} (h1 : -9223372036854775808 ≤ x) (h2 : x ≤ 9223372036854775807) : (Lit.int .i64 x).wf = true := WalkArith.wf_i64 ⟨h1, h2⟩

/-- A map from a Seq to its record holds the first i items. -/
def SeqF (l : List Itm) (i : Nat) (f : Int → Option Rc) : Prop := ∀ q r, f q = some r ↔ ((q, r) : Itm) ∈ l.take i
theorem SeqF.zero (l : List Itm) : SeqF l 0 (fun _ => none) := fun q r => by simp
theorem SeqF.next {l : List Itm} {i : Nat} {f : Int → Option Rc} {q : Int} {r : Rc} (h : SeqF l i f) (hx : l[i]? = some (q, r)) (hf : f q = none ∨ f q = some r) : SeqF l (i + 1) (fun y => if y = q then some r else f y) := by
  intro q' r'
  have e : l.take (i + 1) = l.take i ++ [(q, r)] := by rw [List.take_add_one, hx]; rfl
  rw [e, List.mem_append]
  by_cases c : q' = q
  · subst c
    simp only [if_true, Option.some.injEq, List.mem_singleton, Prod.mk.injEq, true_and]
    constructor
    · intro e2; exact .inr e2.symm
    · rintro (h1 | h1)
      · have := (h q' r').2 h1
        rcases hf with hf | hf
        · rw [hf] at this; cases this
        · rw [hf] at this; cases this; rfl
      · exact h1.symm
  · simp only [if_neg c, List.mem_singleton, Prod.mk.injEq]
    constructor
    · intro e2; exact .inl ((h q' r').1 e2)
    · rintro (h1 | h1)
      · exact (h q' r').2 h1
      · exact absurd h1.1 c
theorem SeqF.at' {l : List Itm} {i : Nat} {f : Int → Option Rc} (h : SeqF l i f) {q : Int} {r : Rc} (hf : f q = some r) : ∃ j, j < i ∧ l[j]? = some (q, r) := by
  have := (h q r).1 hf
  obtain ⟨j, hj, e⟩ := List.getElem_of_mem this
  have hj' : j < i ∧ j < l.length := by rw [List.length_take] at hj; omega
  refine ⟨j, hj'.1, ?_⟩
  rw [List.getElem_take] at e
  rw [List.getElem?_eq_getElem hj'.2, e]
theorem SeqF.none' {l : List Itm} {i : Nat} {f : Int → Option Rc} (h : SeqF l i f) {q : Int} (hf : f q = none) {j : Nat} {x : Itm} (hj : l[j]? = some x) (hl : j < i) : x.1 ≠ q := by
  intro e
  have : ((q, x.2) : Itm) ∈ l.take i := by
    rw [← e]
    exact List.mem_of_getElem? (i := j) (by rw [List.getElem?_take, if_pos hl]; exact hj)
  rw [(h q x.2).2 this] at hf
  cases hf

theorem rcv_inj (x y : Rc) (h : x.v = y.v) : x = y := by
  obtain ⟨a0, a1, a2, a3, a4, a5, a6, a7⟩ := x
  obtain ⟨b0, b1, b2, b3, b4, b5, b6, b7⟩ := y
  simp only [Rc.v] at h
  injection h with h
  simp only [Array.mk.injEq, List.cons.injEq, Value.int.injEq, Value.string.injEq, true_and, and_true] at h
  obtain ⟨rfl, rfl, rfl, rfl, rfl, rfl, rfl, rfl⟩ := h
  rfl

theorem frameNumberOk_yes (n : Int) (w : World) (h1 : 1 ≤ n) (h2 : n ≤ 1000000000) : Calls Try.prog 49 #[.int .i64 n] w fun e w' => e = .returned (.bool true) ∧ w = w' := by
  go_enter Try.func49, Try.ntmps49
  go_wp2
  go_ret
  simp
theorem frameNumberOk_no (n : Int) (w : World) (h : ¬ (1 ≤ n ∧ n ≤ 1000000000)) : Calls Try.prog 49 #[.int .i64 n] w fun e w' => e = .returned (.bool false) ∧ w = w' := by
  by_cases h1 : 1 ≤ n
  · have h2 : ¬ n ≤ 1000000000 := fun c => h ⟨h1, c⟩
    clear h
    go_enter Try.func49, Try.ntmps49
    go_wp2
    go_ret
    simp
  · clear h
    go_enter Try.func49, Try.ntmps49
    go_wp2
    go_ret
    simp

theorem rc_part {r s : Rc} (h : r ≠ s) : r.kind ≠ s.kind ∨ (r.kind = s.kind ∧ r.valid ≠ s.valid) ∨ (r.kind = s.kind ∧ r.valid = s.valid ∧ r.uid ≠ s.uid) ∨ (r.kind = s.kind ∧ r.valid = s.valid ∧ r.uid = s.uid ∧ r.next ≠ s.next) ∨ (r.kind = s.kind ∧ r.valid = s.valid ∧ r.uid = s.uid ∧ r.next = s.next ∧ r.flags ≠ s.flags) ∨
    (r.kind = s.kind ∧ r.valid = s.valid ∧ r.uid = s.uid ∧ r.next = s.next ∧ r.flags = s.flags ∧ r.user ≠ s.user) ∨ (r.kind = s.kind ∧ r.valid = s.valid ∧ r.uid = s.uid ∧ r.next = s.next ∧ r.flags = s.flags ∧ r.user = s.user ∧ r.name ≠ s.name) ∨ (r.kind = s.kind ∧ r.valid = s.valid ∧ r.uid = s.uid ∧ r.next = s.next ∧ r.flags = s.flags ∧ r.user = s.user ∧ r.name = s.name ∧ r.text ≠ s.text) := by
  obtain ⟨a0, a1, a2, a3, a4, a5, a6, a7⟩ := r
  obtain ⟨b0, b1, b2, b3, b4, b5, b6, b7⟩ := s
  simp only
  by_cases h0 : a0 = b0
  case neg => exact .inl h0
  by_cases h1 : a1 = b1
  case neg => exact .inr (.inl ⟨h0, h1⟩)
  by_cases h2 : a2 = b2
  case neg => exact .inr (.inr (.inl ⟨h0, h1, h2⟩))
  by_cases h3 : a3 = b3
  case neg => exact .inr (.inr (.inr (.inl ⟨h0, h1, h2, h3⟩)))
  by_cases h4 : a4 = b4
  case neg => exact .inr (.inr (.inr (.inr (.inl ⟨h0, h1, h2, h3, h4⟩))))
  by_cases h5 : a5 = b5
  case neg => exact .inr (.inr (.inr (.inr (.inr (.inl ⟨h0, h1, h2, h3, h4, h5⟩)))))
  by_cases h6 : a6 = b6
  case neg => exact .inr (.inr (.inr (.inr (.inr (.inr (.inl ⟨h0, h1, h2, h3, h4, h5, h6⟩))))))
  by_cases h7 : a7 = b7
  case neg => exact .inr (.inr (.inr (.inr (.inr (.inr (.inr ⟨h0, h1, h2, h3, h4, h5, h6, h7⟩))))))
  subst h0 h1 h2 h3 h4 h5 h6 h7
  exact absurd rfl h

/-- The keys of a map from whole numbers. -/
def iK : KeyE Try.prog Int := intK 3 Try.underlying3

set_option maxRecDepth 100000 in
theorem zero_rec (w : World) : (zeroValue 27).run Try.prog w = .ok (Rc.nil.v) w := by kernel_rfl

set_option maxRecDepth 100000 in
set_option maxHeartbeats 4000000 in
theorem implItemsOk_any (l : List Itm) (v : Value) (w : World) (h : Rows' itE w v l) (hl : l.length ≤ 1099511627776) :
    Calls Try.prog 29 #[v] w fun e w' => e = .returned (.bool (decide (itemsOk l))) ∧ Below w.heap.size w w' := by
  obtain ⟨ad, cap, rfl, hrow⟩ := h.items
  have HR := Lib.hid hrow
  clear h hrow
  obtain ⟨D, hD⟩ : ∃ D, decide (itemsOk l) = D := ⟨_, rfl⟩
  have HD := Lib.hid hD
  rw [hD]
  clear hD
  have hmm := fun n wx => run_makeMap_hint (P := Try.prog) (t := 82) Try.underlying82 n wx
  by_cases hlen : l.length ≤ 200
  case neg =>
    have hgt : (200 : Int) < (l.length : Int) := by omega
    go_enter Try.func29, Try.ntmps29
    go_wp2
    go_ret
    exact ⟨by rw [← HD.out, decide_eq_false (fun c => hlen c.2.2)]; rfl, Below.refl _ _⟩
  have hgt : ¬ (200 : Int) < (l.length : Int) := by omega
  have M0 : MapIs iK Rc.v (w.alloc (.map #[] 0)) w.heap.size 0 (fun _ => none) := MapIs.made _ _ _
  have b0 := belNew w (.map #[] 0)
  go_enter Try.func29, Try.ntmps29
  go_wp2
  generalize w.alloc (.map #[] 0) = w1 at M0 b0 ⊢
  obtain ⟨g, hg⟩ : ∃ g, w.heap.size = g := ⟨_, rfl⟩
  rw [hg] at M0
  have hgle : Hid (w.heap.size ≤ g) := show _ ≤ _ by omega
  rw [hg]
  clear hg hmm
  go_loopw [16] (fun iv wr => ∃ (i : Nat) (f : Int → Option Rc), i ≤ l.length ∧ iv = .int .i64 (i : Int) ∧ ItG l i ∧ SeqF l i f ∧ MapIs iK Rc.v wr g i f ∧ Below w.heap.size w wr) (fun iv _ => l.length - (intOf iv).toNat)
  case atStart => exact ⟨0, _, by omega, rfl, ItG.zero l, SeqF.zero l, M0, b0⟩
  case round =>
    clear M0 b0
    obtain ⟨i, f, hi, rfl, hG, hF, hM, hb⟩ := hrel
    have HG := Lib.hid hG
    have HF := Lib.hid hF
    have HM := Lib.hid hM
    clear hG hF hM
    by_cases hlt : i < l.length
    · obtain ⟨x, hx⟩ : ∃ x, l[i]? = some x := ⟨_, List.getElem?_eq_getElem hlt⟩
      obtain ⟨ga, oa, rfl, a0, a1, a2, a3, a4, a5, a6, a7, a8⟩ := HR.out _ hb i _ hx
      have HX := Lib.hid hx
      obtain ⟨sq, K, V, U, N, FL, US, NM, TX⟩ := x
      simp only at a0 a1 a2 a3 a4 a5 a6 a7 a8
      have hi0 : (0 : Int) ≤ (i : Int) := by omega
      have hi1 : (i : Int) < (l.length : Int) := by omega
      clear hx
      have hbn : Below w.heap.size w (wr.alloc (.cells #[.int .i64 sq, .int .i64 K, .int .i64 V, .int .i64 U, .int .i64 N, .int .i64 FL, .string US, .string NM, .string TX] 42)) := hb.trans ((belNew wr _).mono hb.size)
      by_cases hs : 1 ≤ sq ∧ sq ≤ 1000000000
      case neg =>
        have HS := Lib.hid hs
        clear hs
        go_wp2_with (go_at_call 49; refine (frameNumberOk_no _ _ HS.out).mono ?_; rintro e w5 ⟨rfl, rfl⟩)
        go_ret
        exact ⟨by rw [← HD.out, items_bad HX.out (fun c => HS.out c.1)]; rfl, hbn⟩
      obtain ⟨hs1, hs2⟩ := hs
      have hRO := fun wx => implRecOk_any ⟨K, V, U, N, FL, US, NM, TX⟩ wx
      unfold Rc.v at hRO
      by_cases hok : (⟨K, V, U, N, FL, US, NM, TX⟩ : Rc).ok
      case neg =>
        rw [decide_eq_false hok] at hRO
        have HO := Lib.hid hok
        clear hok
        go_wp2_with (first | (go_at_call 49; refine (frameNumberOk_yes _ _ hs1 hs2).mono ?_; rintro e w5 ⟨rfl, rfl⟩) | (go_at_call 40; refine (hRO _).mono ?_; rintro e w6 ⟨rfl, hb6⟩))
        go_ret
        exact ⟨by rw [← HD.out, items_bad HX.out (fun c => HO.out c.2)]; rfl, hbn.trans (hb6.mono hbn.size)⟩
      rw [decide_eq_true hok] at hRO
      have HO := Lib.hid hok
      clear hok
      have hwf : iK.ok sq := wf_of (by omega) (by omega)
      have bR : Below wr.heap.size wr (wr.alloc (.cells #[.int .i64 sq, .int .i64 K, .int .i64 V, .int .i64 U, .int .i64 N, .int .i64 FL, .string US, .string NM, .string TX] 42)) := belNew wr _
      have XB := Box.new wr #[.int .i64 sq, .int .i64 K, .int .i64 V, .int .i64 U, .int .i64 N, .int .i64 FL, .string US, .string NM, .string TX] 42
      have HRO : Hid (∀ X, Below wr.heap.size wr X → Box X wr.heap.size #[.int .i64 sq, .int .i64 K, .int .i64 V, .int .i64 U, .int .i64 N, .int .i64 FL, .string US, .string NM, .string TX] 42 → Calls Try.prog 40 #[.agg #[.int .i64 K, .int .i64 V, .int .i64 U, .int .i64 N, .int .i64 FL, .string US, .string NM, .string TX]] X fun e w' => e = .returned (.bool true) ∧ Below wr.heap.size wr w' ∧ Box w' wr.heap.size #[.int .i64 sq, .int .i64 K, .int .i64 V, .int .i64 U, .int .i64 N, .int .i64 FL, .string US, .string NM, .string TX] 42) := fun X hX hB => (hRO X).mono fun e w' ⟨h1, h2⟩ => ⟨h1, hX.trans (h2.mono hX.size), hB.later h2⟩
      clear hRO
      cases hf : f sq with
      | none =>
        have HFS := Lib.hid hf
        clear hf
        go_wp2_with (first | (go_at_call 49; refine (frameNumberOk_yes _ _ hs1 hs2).mono ?_; rintro e w5 ⟨rfl, rfl⟩) | (go_at_call 40; refine (HRO.out _ bR XB).mono ?_; rintro e w6 ⟨rfl, hb6, XB6⟩; have hlk := (HM.out.later hb6).look_gone (t := 82) Try.underlying82 (zero_rec w6) hwf HFS.out true; change (Instr.lookup 82 (.map (some g)) (.int .i64 sq) true).run Try.prog w6 = .ok (.tuple #[Rc.nil.v, .bool false]) w6 at hlk; unfold Rc.nil Rc.v at hlk; obtain ⟨q0, q1, q2, q3, q4, q5, q6, q7, q8, _⟩ := XB6.nine; obtain ⟨p0, p1, p2, p3, p4, p5, p6, p7, p8, _⟩ := (XB6.later (belNew w6 (.cells #[.int .i64 0, .int .i64 0, .int .i64 0, .int .i64 0, .int .i64 0, .string emp, .string emp, .string emp] 27))).nine) | (at_mapUpdate; refine wpList_put rfl _ _ _ _ rfl iK Rc.v rcv_inj _ Try.underlying82 g i f rfl ((HM.out.later hb6).later (belNew _ _)) (by unfold maxLen; omega) sq ⟨K, V, U, N, FL, US, NM, TX⟩ rfl rfl hwf ?_; intro w8 hM8 hg8 hs8))
        go_wp2
        go_roundw
        case rel => exact ⟨i + 1, _, by omega, by go_num, HG.out.next HX.out ⟨⟨hs1, hs2⟩, HO.out⟩ (fun j y hj hji e => absurd e (HF.out.none' HFS.out hj hji)), HF.out.next HX.out (.inl HFS.out), hM8, (hb.trans ((hb6.trans ((belNew w6 _).mono hb6.size)).mono hb.size)).grown hg8 (Nat.le_trans hb.size (Nat.le_trans hb6.size (by simp))) (fun j hj => by cases hj; exact hgle.out)⟩
        case measure => simp [intOf]; omega
      | some r0 =>
        have HFS := Lib.hid hf
        clear hf
        by_cases hr : r0 = ⟨K, V, U, N, FL, US, NM, TX⟩
        · subst hr
          go_wp2_with (first | (go_at_call 49; refine (frameNumberOk_yes _ _ hs1 hs2).mono ?_; rintro e w5 ⟨rfl, rfl⟩) | (go_at_call 40; refine (HRO.out _ bR XB).mono ?_; rintro e w6 ⟨rfl, hb6, XB6⟩; have hlk := (HM.out.later hb6).look_there (t := 82) Try.underlying82 (zero_rec w6) hwf HFS.out true; change (Instr.lookup 82 (.map (some g)) (.int .i64 sq) true).run Try.prog w6 = .ok (.tuple #[Rc.v ⟨K, V, U, N, FL, US, NM, TX⟩, .bool true]) w6 at hlk; unfold Rc.v at hlk; obtain ⟨q0, q1, q2, q3, q4, q5, q6, q7, q8, _⟩ := XB6.nine; obtain ⟨p0, p1, p2, p3, p4, p5, p6, p7, p8, _⟩ := (XB6.later (belNew w6 (.cells #[.int .i64 K, .int .i64 V, .int .i64 U, .int .i64 N, .int .i64 FL, .string US, .string NM, .string TX] 27))).nine) | (at_mapUpdate; refine wpList_put rfl _ _ _ _ rfl iK Rc.v rcv_inj _ Try.underlying82 g i f rfl ((HM.out.later hb6).later (belNew _ _)) (by unfold maxLen; omega) sq ⟨K, V, U, N, FL, US, NM, TX⟩ rfl rfl hwf ?_; intro w8 hM8 hg8 hs8))
          go_wp2
          go_roundw
          case rel =>
            refine ⟨i + 1, _, by omega, by go_num, HG.out.next HX.out ⟨⟨hs1, hs2⟩, HO.out⟩ (fun j y hj hji e => ?_), HF.out.next HX.out (.inr HFS.out), hM8, (hb.trans ((hb6.trans ((belNew w6 _).mono hb6.size)).mono hb.size)).grown hg8 (Nat.le_trans hb.size (Nat.le_trans hb6.size (by simp))) (fun j hj => by cases hj; exact hgle.out)⟩
            obtain ⟨yq, yr⟩ := y
            simp only at e
            subst e
            have : f yq = some yr := (HF.out yq yr).2 (List.mem_of_getElem? (i := j) (by rw [List.getElem?_take, if_pos hji]; exact hj))
            rw [HFS.out] at this
            cases this
            rfl
          case measure => simp [intOf]; omega
        · have hp := rc_part hr
          have HP : Hid (decide (itemsOk l) = false) := by
            obtain ⟨j, hj, ej⟩ := HF.out.at' HFS.out
            exact items_part ej HX.out rfl (fun e => hr (Prod.mk.inj e).2)
          obtain ⟨K0, V0, U0, N0, FL0, US0, NM0, TX0⟩ := r0
          simp only at hp
          clear hr
          rcases hp with h0 | ⟨rfl, h0⟩ | ⟨rfl, rfl, h0⟩ | ⟨rfl, rfl, rfl, h0⟩ | ⟨rfl, rfl, rfl, rfl, h0⟩ | ⟨rfl, rfl, rfl, rfl, rfl, h0⟩ | ⟨rfl, rfl, rfl, rfl, rfl, rfl, h0⟩ | ⟨rfl, rfl, rfl, rfl, rfl, rfl, rfl, h0⟩
          all_goals (
            try have hba : ¬ (_ : List UInt8) = _ := fun e => h0 ((ba_same _ _).1 e)
            go_wp2_with (first | (go_at_call 49; refine (frameNumberOk_yes _ _ hs1 hs2).mono ?_; rintro e w5 ⟨rfl, rfl⟩) | (go_at_call 40; refine (HRO.out _ bR XB).mono ?_; rintro e w6 ⟨rfl, hb6, XB6⟩; have hlk := (HM.out.later hb6).look_there (t := 82) Try.underlying82 (zero_rec w6) hwf HFS.out true; dsimp only [iK, intK, Rc.v, if_true] at hlk; obtain ⟨q0, q1, q2, q3, q4, q5, q6, q7, q8, _⟩ := XB6.nine; have XB7 := fun cs t => (XB6.later (belNew w6 (.cells cs t))).nine))
            go_ret
            exact ⟨by rw [← HD.out, HP.out]; rfl, hb.trans ((hb6.trans ((belNew w6 _).mono hb6.size)).mono hb.size)⟩)
    · go_wp2
      go_ret
      have e : i = l.length := by omega
      subst e
      exact ⟨by rw [← HD.out, HG.out.done, decide_eq_true hlen]; rfl, hb⟩

end Go.Proofs.Ythlbokfajiahpab

/- Records and items: the helpers of the exact laws. -/
namespace Go.Proofs.Ythlbokfajiahpab
open Go.RowKit

set_option maxRecDepth 100000 in
set_option maxHeartbeats 1000000 in
theorem szRec_any (r : Rc) (left : Int) (w : World) (s1 : r.user.size ≤ 9223372036854775807) (s2 : r.name.size ≤ 9223372036854775807) (s3 : r.text.size ≤ 9223372036854775807) (h0 : 0 ≤ left) (h1 : left ≤ 1099511627776) :
    Calls Try.prog 9 #[r.v, .int .i64 left] w fun e w' => (∃ x : Int, e = .returned (.int .i64 x) ∧ (x < 0 ∨ (r.user.size : Int) + r.name.size + r.text.size ≤ left) ∧ -1 ≤ x ∧ x ≤ left) ∧ Below w.heap.size w w' := by
  have b0 : Below w.heap.size w (w.alloc (.cells #[.int .i64 r.kind, .int .i64 r.valid, .int .i64 r.uid, .int .i64 r.next, .int .i64 r.flags, .string r.user, .string r.name, .string r.text] 23)) := belNew _ _
  unfold Rc.v
  by_cases hA : (r.user.size : Int) ≤ left
  · by_cases hB : (r.name.size : Int) ≤ left - r.user.size
    · by_cases hC : (r.text.size : Int) ≤ left - r.user.size - r.name.size
      · go_enter Try.func9, Try.ntmps9
        go_wp2
        go_ret
        exact ⟨⟨left - r.user.size - r.name.size - r.text.size, rfl, .inr (by omega), by omega, by omega⟩, b0⟩
      · go_enter Try.func9, Try.ntmps9
        go_wp2
        go_ret
        exact ⟨⟨-1, rfl, .inl (by omega), by omega, by omega⟩, b0⟩
    · go_enter Try.func9, Try.ntmps9
      go_wp2
      go_ret
      exact ⟨⟨-1, rfl, .inl (by omega), by omega, by omega⟩, b0⟩
  · go_enter Try.func9, Try.ntmps9
    go_wp2
    go_ret
    exact ⟨⟨-1, rfl, .inl (by omega), by omega, by omega⟩, b0⟩

set_option maxRecDepth 100000 in
set_option maxHeartbeats 1000000 in
theorem toRec_any (r : Rc) (w : World) : Calls Try.prog 11 #[r.v] w fun e w' => e = .returned r.v ∧ Below w.heap.size w w' := by
  unfold Rc.v
  go_enter Try.func11, Try.ntmps11
  go_wp2
  refine bodyPost_ret (v := .agg #[.int .i64 r.kind, .int .i64 r.valid, .int .i64 r.uid, .int .i64 r.next, .int .i64 r.flags, .string r.user, .string r.name, .string r.text]) (by simp [results, Try.results11, go_sem]) rfl ?_
  exact ⟨rfl, (((Below.refl _ _).alloc (Nat.le_refl _) _).alloc (by simp) _).alloc (by simp; omega) _⟩

set_option maxRecDepth 100000 in
set_option maxHeartbeats 1000000 in
theorem eqRec_same (r : Rc) (w : World) : Calls Try.prog 15 #[r.v, r.v] w fun e w' => e = .returned (.bool true) ∧ Below w.heap.size w w' := by
  unfold Rc.v
  go_enter Try.func15, Try.ntmps15
  go_wp2
  go_ret
  exact ⟨rfl, ((Below.refl _ _).alloc (Nat.le_refl _) _).alloc (by simp) _⟩

set_option maxRecDepth 100000 in
set_option maxHeartbeats 1000000 in
theorem szItem_any (seq : Int) (r : Rc) (left : Int) (w : World) (s1 : r.user.size ≤ 9223372036854775807) (s2 : r.name.size ≤ 9223372036854775807) (s3 : r.text.size ≤ 9223372036854775807) (h0 : 0 ≤ left) (h1 : left ≤ 1099511627776) :
    Calls Try.prog 16 #[itV seq r, .int .i64 left] w fun e w' => (∃ x : Int, e = .returned (.int .i64 x) ∧ (x < 0 ∨ (r.user.size : Int) + r.name.size + r.text.size ≤ left) ∧ -1 ≤ x ∧ x ≤ left) ∧ Below w.heap.size w w' := by
  have b0 : Below w.heap.size w (w.alloc (.cells #[.int .i64 seq, .int .i64 r.kind, .int .i64 r.valid, .int .i64 r.uid, .int .i64 r.next, .int .i64 r.flags, .string r.user, .string r.name, .string r.text] 35)) := belNew _ _
  have HS := Lib.hid (fun wx => szRec_any r left wx s1 s2 s3 h0 h1)
  unfold Rc.v at HS
  unfold itV
  go_enter Try.func16, Try.ntmps16
  go_wp2_with fail
  generalize w.alloc (.cells #[.int .i64 seq, .int .i64 r.kind, .int .i64 r.valid, .int .i64 r.uid, .int .i64 r.next, .int .i64 r.flags, .string r.user, .string r.name, .string r.text] 35) = W at b0 ⊢
  refine (HS.out _).mono ?_
  rintro e w1 ⟨⟨x, rfl, hx, hx1, hx2⟩, k1⟩
  have BB := Lib.hid (b0.trans (k1.mono b0.size))
  clear k1 b0 HS
  by_cases hn : x < 0
  · have HX := Lib.hid hx
    clear hx
    go_wp2
    go_ret
    exact ⟨⟨-1, rfl, .inl (by omega), by omega, by omega⟩, BB.out⟩
  · have HX := Lib.hid hx
    clear hx
    go_wp2
    go_ret
    exact ⟨⟨x, rfl, HX.out, hx1, hx2⟩, BB.out⟩

set_option maxRecDepth 100000 in
set_option maxHeartbeats 2000000 in
theorem toItem_any (seq : Int) (r : Rc) (w : World) : Calls Try.prog 18 #[itV seq r] w fun e w' => e = .returned (itV seq r) ∧ Below w.heap.size w w' := by
  have HT := Lib.hid (fun wx => toRec_any r wx)
  have hA := Box.new w #[.int .i64 seq, .int .i64 r.kind, .int .i64 r.valid, .int .i64 r.uid, .int .i64 r.next, .int .i64 r.flags, .string r.user, .string r.name, .string r.text] 35
  have bA := belNew w (.cells #[.int .i64 seq, .int .i64 r.kind, .int .i64 r.valid, .int .i64 r.uid, .int .i64 r.next, .int .i64 r.flags, .string r.user, .string r.name, .string r.text] 35)
  have hB := Box.new (w.alloc (.cells #[.int .i64 seq, .int .i64 r.kind, .int .i64 r.valid, .int .i64 r.uid, .int .i64 r.next, .int .i64 r.flags, .string r.user, .string r.name, .string r.text] 35)) #[.int .i64 0, .int .i64 0, .int .i64 0, .int .i64 0, .int .i64 0, .int .i64 0, .string ⟨#[]⟩, .string ⟨#[]⟩, .string ⟨#[]⟩] 42
  have bB := bA.trans ((belNew (w.alloc (.cells #[.int .i64 seq, .int .i64 r.kind, .int .i64 r.valid, .int .i64 r.uid, .int .i64 r.next, .int .i64 r.flags, .string r.user, .string r.name, .string r.text] 35)) (.cells #[.int .i64 0, .int .i64 0, .int .i64 0, .int .i64 0, .int .i64 0, .int .i64 0, .string ⟨#[]⟩, .string ⟨#[]⟩, .string ⟨#[]⟩] 42)).mono bA.size)
  have hC := Box.new ((w.alloc (.cells #[.int .i64 seq, .int .i64 r.kind, .int .i64 r.valid, .int .i64 r.uid, .int .i64 r.next, .int .i64 r.flags, .string r.user, .string r.name, .string r.text] 35)).alloc (.cells #[.int .i64 0, .int .i64 0, .int .i64 0, .int .i64 0, .int .i64 0, .int .i64 0, .string ⟨#[]⟩, .string ⟨#[]⟩, .string ⟨#[]⟩] 42)) #[.int .i64 seq, .int .i64 0, .int .i64 0, .int .i64 0, .int .i64 0, .int .i64 0, .string ⟨#[]⟩, .string ⟨#[]⟩, .string ⟨#[]⟩] 42
  have bC := bB.trans ((belNew ((w.alloc (.cells #[.int .i64 seq, .int .i64 r.kind, .int .i64 r.valid, .int .i64 r.uid, .int .i64 r.next, .int .i64 r.flags, .string r.user, .string r.name, .string r.text] 35)).alloc (.cells #[.int .i64 0, .int .i64 0, .int .i64 0, .int .i64 0, .int .i64 0, .int .i64 0, .string ⟨#[]⟩, .string ⟨#[]⟩, .string ⟨#[]⟩] 42)) (.cells #[.int .i64 seq, .int .i64 0, .int .i64 0, .int .i64 0, .int .i64 0, .int .i64 0, .string ⟨#[]⟩, .string ⟨#[]⟩, .string ⟨#[]⟩] 42)).mono bB.size)
  have hB' := hB.later (belNew _ (.cells #[.int .i64 seq, .int .i64 0, .int .i64 0, .int .i64 0, .int .i64 0, .int .i64 0, .string ⟨#[]⟩, .string ⟨#[]⟩, .string ⟨#[]⟩] 42))
  have e1 : (w.alloc (.cells #[.int .i64 seq, .int .i64 r.kind, .int .i64 r.valid, .int .i64 r.uid, .int .i64 r.next, .int .i64 r.flags, .string r.user, .string r.name, .string r.text] 35)).heap.size = w.heap.size + 1 := by simp
  have e2 : ((w.alloc (.cells #[.int .i64 seq, .int .i64 r.kind, .int .i64 r.valid, .int .i64 r.uid, .int .i64 r.next, .int .i64 r.flags, .string r.user, .string r.name, .string r.text] 35)).alloc (.cells #[.int .i64 0, .int .i64 0, .int .i64 0, .int .i64 0, .int .i64 0, .int .i64 0, .string ⟨#[]⟩, .string ⟨#[]⟩, .string ⟨#[]⟩] 42)).heap.size = w.heap.size + 1 + 1 := by simp
  rw [e1] at hB'
  rw [e2] at hC
  clear hA bA hB bB e1 e2
  unfold Rc.v at HT
  unfold itV
  go_enter Try.func18, Try.ntmps18
  go_wp2_with fail
  generalize ((w.alloc (.cells #[.int .i64 seq, .int .i64 r.kind, .int .i64 r.valid, .int .i64 r.uid, .int .i64 r.next, .int .i64 r.flags, .string r.user, .string r.name, .string r.text] 35)).alloc (.cells #[.int .i64 0, .int .i64 0, .int .i64 0, .int .i64 0, .int .i64 0, .int .i64 0, .string ⟨#[]⟩, .string ⟨#[]⟩, .string ⟨#[]⟩] 42)).alloc (.cells #[.int .i64 seq, .int .i64 0, .int .i64 0, .int .i64 0, .int .i64 0, .int .i64 0, .string ⟨#[]⟩, .string ⟨#[]⟩, .string ⟨#[]⟩] 42) = W at hB' hC bC ⊢
  refine (HT.out _).mono ?_
  rintro e w1 ⟨rfl, k1⟩
  obtain ⟨u0, u1, u2, u3, u4, u5, u6, u7, u8, v0, v1, v2, v3, v4, v5, v6, v7, v8⟩ := (hB'.later k1).nine
  obtain ⟨x0, x1, x2, x3, x4, x5, x6, x7, x8, y0, y1, y2, y3, y4, y5, y6, y7, y8⟩ := (hC.later k1).nine
  have BB := Lib.hid (bC.trans (k1.mono bC.size))
  clear hB' hC bC k1 HT
  go_wp2
  refine bodyPost_ret (v := .agg #[.int .i64 seq, .int .i64 r.kind, .int .i64 r.valid, .int .i64 r.uid, .int .i64 r.next, .int .i64 r.flags, .string r.user, .string r.name, .string r.text]) (by simp [results, Try.results18, go_sem, u0, u1, u2, u3, u4, u5, u6, u7, u8]) rfl ?_
  refine ⟨rfl, ?_⟩
  have l1 : w.heap.size ≤ w.heap.size + 1 := by omega
  have l2 : w.heap.size ≤ w.heap.size + 1 + 1 := by omega
  repeat' first | (with_reducible exact BB.out) | (with_reducible refine Below.setCell ?_ (by first | exact l1 | exact l2) _)

set_option maxRecDepth 100000 in
set_option maxHeartbeats 1000000 in
theorem eqItem_same (seq : Int) (r : Rc) (w : World) : Calls Try.prog 25 #[itV seq r, itV seq r] w fun e w' => e = .returned (.bool true) ∧ Below w.heap.size w w' := by
  have HT := Lib.hid (fun wx => eqRec_same r wx)
  have bA := belNew w (.cells #[.int .i64 seq, .int .i64 r.kind, .int .i64 r.valid, .int .i64 r.uid, .int .i64 r.next, .int .i64 r.flags, .string r.user, .string r.name, .string r.text] 42)
  have bB := bA.trans ((belNew (w.alloc (.cells #[.int .i64 seq, .int .i64 r.kind, .int .i64 r.valid, .int .i64 r.uid, .int .i64 r.next, .int .i64 r.flags, .string r.user, .string r.name, .string r.text] 42)) (.cells #[.int .i64 seq, .int .i64 r.kind, .int .i64 r.valid, .int .i64 r.uid, .int .i64 r.next, .int .i64 r.flags, .string r.user, .string r.name, .string r.text] 42)).mono bA.size)
  clear bA
  unfold Rc.v at HT
  unfold itV
  go_enter Try.func25, Try.ntmps25
  go_wp2_with fail
  generalize (w.alloc (.cells #[.int .i64 seq, .int .i64 r.kind, .int .i64 r.valid, .int .i64 r.uid, .int .i64 r.next, .int .i64 r.flags, .string r.user, .string r.name, .string r.text] 42)).alloc (.cells #[.int .i64 seq, .int .i64 r.kind, .int .i64 r.valid, .int .i64 r.uid, .int .i64 r.next, .int .i64 r.flags, .string r.user, .string r.name, .string r.text] 42) = W at bB ⊢
  refine (HT.out _).mono ?_
  rintro e w1 ⟨rfl, k1⟩
  have BB := Lib.hid (bB.trans (k1.mono bB.size))
  clear bB k1 HT
  go_wp2
  go_ret
  exact ⟨rfl, BB.out⟩

end Go.Proofs.Ythlbokfajiahpab

/- One figure: what spec.l01Figure hands back. -/
namespace Go.Proofs.Ythlbokfajiahpab
open Go.RowKit



end Go.Proofs.Ythlbokfajiahpab

/- The figures of a number: what spec.Decimal hands back. -/
namespace Go.Proofs.Ythlbokfajiahpab
open Go.RowKit

theorem fig_figD {x : Nat} (h : x < 10) : fig x = figD x := by
  rw [fig, if_pos h, figD]

theorem one_string (w : World) (X : Int) (b : UInt8) (h : X = (b.toNat : Int)) :
    (convert 68 9 (.slice (some ⟨w.heap.size, 0, none⟩) 1 1)).run Try.prog (w.alloc (.cells #[.int .u8 X] 5)) = .ok (.string ⟨[b].toArray⟩) (w.alloc (.cells #[.int .u8 X] 5)) := by
  subst h
  refine run_convert_bytes_back (P := Try.prog) _ 68 9 5 ⟨w.heap.size, 0, none⟩ 1 [b] Try.underlying68 Try.underlying5 Try.underlying9 fun j hj => ?_
  have hj0 : j = 0 := by simpa using hj
  subst hj0
  simp [Addr.add]

theorem string_push (b : UInt8) (acc : List UInt8) (h : acc.length + 1 ≤ 9223372036854775807) (wx : World) :
    (Op.stringOp .add ⟨[b].toArray⟩ ⟨acc.toArray⟩).run Try.prog wx = .ok (.string ⟨(b :: acc).toArray⟩) wx := by
  rw [run_string_add_sum (P := Try.prog) (w := wx) ⟨[b].toArray⟩ ⟨acc.toArray⟩ (by simp [ByteArray.size]; omega), ByteArray.mk_append_mk]
  rfl


end Go.Proofs.Ythlbokfajiahpab

/- What a list of texts is that a call builds in memory of its own, and the laws by which it grows, is read and is written. -/
namespace Go.Proofs.Ythlbokfajiahpab
open Go.RowKit

theorem Try.info_str : (Try.prog.info? 9).map (fun i => (i.zero, i.size, i.bytes)) = some (some (.string ⟨#[]⟩), 1, 16) := by kernel_rfl

def strV (l : List ByteArray) : List Value := l.map fun c => .string c
theorem strV_length (l : List ByteArray) : (strV l).length = l.length := by simp [strV]

/-- The slice v holds the texts l in memory that the call made itself (blocks from B on); below B all is as it was in w0. -/
structure SBuf (B : Nat) (w0 w : World) (v : Value) (l : List ByteArray) : Prop where
  own : w.ownsRow B 9 1 v l.length (strV l)
  bel : Below B w0 w
  le : B ≤ w.heap.size

theorem SBuf.alloc {B : Nat} {w0 w : World} {v : Value} {l : List ByteArray} (h : SBuf B w0 w v l) (o : Obj) : SBuf B w0 (w.alloc o) v l :=
  ⟨h.own.alloc o, h.bel.alloc h.le o, by have := h.le; simp; omega⟩
theorem SBuf.drew {B : Nat} {w0 w : World} {v : Value} {l : List ByteArray} (h : SBuf B w0 w v l) : SBuf B w0 w.drew v l :=
  ⟨h.own.drew, h.bel.drew, h.le⟩
theorem SBuf.fresh (w : World) : SBuf w.heap.size w (w.alloc (.cells #[] 9)) (.slice (some ⟨w.heap.size, 0, none⟩) 0 0) [] :=
  ⟨World.ownsRow_made w #[] 0 (Nat.le_refl _) (by decide) rfl, (Below.refl _ _).alloc (Nat.le_refl _) _, by simp⟩

/-- What is laid behind the heap's end, and nothing else, leaves the texts where they are. -/
theorem SBuf.later {B : Nat} {w0 w w' : World} {v : Value} {l : List ByteArray} (h : SBuf B w0 w v l) (hb : Below w.heap.size w w') : SBuf B w0 w' v l := by
  have hg : w.grownBy w' none := ⟨hb.os, hb.tape, hb.output, hb.size, fun k hk _ => hb.block k hk⟩
  refine ⟨h.own.kept hg ?_, h.bel.trans (hb.mono h.le), Nat.le_trans h.le hb.size⟩
  cases hv : v.ownBlock with
  | none => exact .inl rfl
  | some k => exact .inr (by simp)

theorem SBuf.form {B : Nat} {w0 w : World} {v : Value} {l : List ByteArray} (h : SBuf B w0 w v l) : ∃ (a : Option Addr) (cap : Nat), v = .slice a l.length cap := by
  rcases h.own.2 with ⟨rfl, h0⟩ | ⟨g, cap, cur, rfl, _⟩
  · exact ⟨none, 0, by rw [h0]⟩
  · exact ⟨_, _, rfl⟩

/-- Texts that can be read: each in its cell of a row; nothing where there is none. -/
def Strs (w : World) (v : Value) (l : List ByteArray) : Prop :=
  (l = [] ∧ ∃ (a : Option Addr) (cap : Nat), v = .slice a 0 cap) ∨
  ∃ g cap : Nat, v = .slice (some ⟨g, 0, none⟩) l.length cap ∧ l.length ≤ cap ∧ g < w.heap.size ∧ ∀ j b, l[j]? = some b → w.cell? ⟨g, j, none⟩ = some (.string b)

theorem SBuf.strs {B : Nat} {w0 w : World} {v : Value} {l : List ByteArray} (h : SBuf B w0 w v l) : Strs w v l := by
  rcases h.own.2 with ⟨rfl, h0⟩ | ⟨g, cap, cur, rfl, hg, hh, hnc, hcp, hcs, htake⟩
  · exact .inl ⟨List.length_eq_zero_iff.1 h0, _, _, rfl⟩
  · refine .inr ⟨g, cap, rfl, hnc, (h.own.lt g rfl).2, fun j b hj => ?_⟩
    have hlt : j < l.length := (List.getElem?_eq_some_iff.1 hj).1
    rw [h.own.cellAt j (by omega)]
    simp [strV, hj]

theorem Strs.later {w w' : World} {v : Value} {l : List ByteArray} (h : Strs w v l) (hb : Below w.heap.size w w') : Strs w' v l := by
  rcases h with h | ⟨g, cap, hv, hc, hg, hcl⟩
  · exact .inl h
  · exact .inr ⟨g, cap, hv, hc, Nat.lt_of_lt_of_le hg hb.size, fun j b hj => (hb.cell (p := ⟨g, j, none⟩) hg).trans (hcl j b hj)⟩

/-- A store into the row. -/
theorem SBuf.stored {B : Nat} {w0 w : World} {g cap : Nat} {l : List ByteArray} (h : SBuf B w0 w (.slice (some ⟨g, 0, none⟩) l.length cap) l) (j : Nat) (t : ByteArray) :
    SBuf B w0 (w.setCell ⟨g, j, none⟩ (.string t)) (.slice (some ⟨g, 0, none⟩) l.length cap) (l.set j t) := by
  have hst := h.own.stored j (.string t)
  have e : strV (l.set j t) = (strV l).set j (.string t) := by simp [strV, List.map_set]
  refine ⟨?_, h.bel.setCell (h.own.lt g rfl).1 _, by have := h.le; simpa using this⟩
  have hl : (l.set j t).length = l.length := by simp
  rw [hl, e]
  exact hst.1

theorem SBuf.under {w0 w1 w : World} {v : Value} {l : List ByteArray} (hb : Below w0.heap.size w0 w1) (h : SBuf w1.heap.size w1 w v l) : SBuf w0.heap.size w0 w v l := by
  refine ⟨⟨h.own.1, ?_⟩, hb.trans (h.bel.mono hb.size), Nat.le_trans hb.size h.le⟩
  rcases h.own.2 with h1 | ⟨g, cap, cur, h1, h2, h3⟩
  · exact .inl h1
  · exact .inr ⟨g, cap, cur, h1, Nat.le_trans hb.size h2, h3⟩

end Go.Proofs.Ythlbokfajiahpab

/- The marks by which a law tells whose memory a list of texts is: what laws.markText, eqStringS, markStringS and heldStringS hand back. -/
namespace Go.Proofs.Ythlbokfajiahpab
open Go.RowKit

/-- The k-th mark. -/
def mark (k : Nat) : ByteArray := ⟨(109 :: digs k).toArray⟩

set_option maxRecDepth 100000 in
set_option maxHeartbeats 1000000 in
theorem markText_any (k : Nat) (w : World) (h1 : 1 ≤ k) (h2 : k ≤ 4611686018427387904) :
    Calls Try.prog 61 #[.int .i64 (k : Int)] w fun e w' => e = .returned (.string (mark k)) ∧ Below w.heap.size w w' := by
  have hdl := digs_len_half k k (Nat.le_refl _)
  go_enter Try.func61, Try.ntmps61
  go_wp2
  go_loopw [0, 3] (fun nv sv wr => ∃ (m : Nat) (acc : List UInt8), m ≤ k ∧ nv = .int .i64 (m : Int) ∧ sv = .string ⟨acc.toArray⟩ ∧ digs m ++ acc = digs k ∧ Below w.heap.size w wr) (fun nv _ _ => (intOf nv).toNat)
  case atStart => exact ⟨k, [], Nat.le_refl _, rfl, rfl, by simp, Below.refl _ _⟩
  case round =>
    obtain ⟨m, acc, hm, rfl, rfl, he0, hbel⟩ := hrel
    have he : Hid (digs m ++ acc = digs k) := he0
    have hal : acc.length ≤ (digs k).length := by have h1 := congrArg List.length he0; simp at h1; omega
    clear he0
    by_cases hm0 : m = 0
    · subst hm0
      have hsp := string_push 109 acc (by omega)
      go_wp2
      go_ret
      refine ⟨?_, hbel⟩
      have := he.out
      rw [digs_zero, List.nil_append] at this
      rw [mark, ← this]
      rfl
    · have hm1 : (0 : Int) < (m : Int) := by omega
      obtain ⟨b, hb0⟩ : ∃ b : UInt8, figD (m % 10) = b := ⟨_, rfl⟩
      have hbn : (b.toNat : Int) = 48 + (m : Int) % 10 := by rw [← hb0, figD_toNat (by omega)]; omega
      have hb1 : Hid (b = figD (m % 10)) := hb0.symm
      have hcv := one_string wr (48 + (m : Int) % 10) b hbn.symm
      have hsp := string_push b acc (by omega)
      clear hb0 hbn
      go_wp2
      go_roundw
      case rel => exact ⟨m / 10, b :: acc, by omega, by go_num, rfl, by rw [hb1.out]; exact digs_push he.out hm0, hbel.alloc hbel.size _⟩
      case measure => simp [intOf]; omega

theorem Strs.ways {w : World} {v : Value} {l : List ByteArray} (h : Strs w v l) : (l = [] ∧ ∃ (a : Option Addr) (cap : Nat), v = .slice a 0 cap) ∨
    (l ≠ [] ∧ ∃ g cap : Nat, v = .slice (some ⟨g, 0, none⟩) l.length cap ∧ l.length ≤ cap ∧ g < w.heap.size ∧ ∀ j b, l[j]? = some b → w.cell? ⟨g, j, none⟩ = some (.string b)) := by
  by_cases hl : l = []
  · subst hl
    rcases h with h | ⟨g, cap, hv, _⟩
    · exact .inl h
    · exact .inl ⟨rfl, _, _, hv⟩
  · rcases h with ⟨h, _⟩ | h
    · exact absurd h hl
    · exact .inr ⟨hl, h⟩

end Go.Proofs.Ythlbokfajiahpab

/- A list of texts marked and looked at again: what laws.markStringS and laws.heldStringS hand back. -/
namespace Go.Proofs.Ythlbokfajiahpab
open Go.RowKit

theorem markText_at (K : Int) (k : Nat) (w : World) (hK : K = (k : Int)) (h1 : 1 ≤ k) (h2 : k ≤ 4611686018427387904) :
    Calls Try.prog 61 #[.int .i64 K] w fun e w' => e = .returned (.string (mark k)) ∧ Below w.heap.size w w' := by
  subst hK
  exact markText_any k w h1 h2

/-- The first i texts of l marked, from the k-th mark on. -/
def markTo (k : Nat) (l : List ByteArray) (i : Nat) : List ByteArray := (List.range i).map (fun j => mark (k + j)) ++ l.drop i

theorem markTo_length {k i : Nat} {l : List ByteArray} (h : i ≤ l.length) : (markTo k l i).length = l.length := by
  simp [markTo]; omega

theorem markTo_set {k i : Nat} {l : List ByteArray} (h : i < l.length) : (markTo k l i).set i (mark (k + i)) = markTo k l (i + 1) := by
  unfold markTo
  rw [List.set_append_right _ _ (by simp)]
  simp only [List.length_map, List.length_range, Nat.sub_self]
  rw [List.drop_eq_getElem_cons h, List.set_cons_zero, List.range_succ, List.map_append, List.append_assoc]
  rfl

theorem markTo_zero (k : Nat) (l : List ByteArray) : markTo k l 0 = l := by simp [markTo]

/-- All marked. -/
def marksOf (k n : Nat) : List ByteArray := (List.range n).map (fun j => mark (k + j))
theorem markTo_all (k : Nat) (l : List ByteArray) : markTo k l l.length = marksOf k l.length := by simp [markTo, marksOf]
theorem marksOf_length (k n : Nat) : (marksOf k n).length = n := by simp [marksOf]
theorem marksOf_at {k n i : Nat} (h : i < n) : (marksOf k n)[i]? = some (mark (k + i)) := by simp [marksOf, h]

end Go.Proofs.Ythlbokfajiahpab

/- Lists copied element by element. -/
namespace Go.Proofs.Ythlbokfajiahpab
open Go.RowKit

/-- The first i elements of l, then nothing yet. -/
def copyTo {α : Type} (z : α) (l : List α) (i : Nat) : List α := l.take i ++ List.replicate (l.length - i) z
theorem copyTo_length {α : Type} {z : α} {l : List α} {i : Nat} (h : i ≤ l.length) : (copyTo z l i).length = l.length := by simp [copyTo]; omega
theorem copyTo_zero {α : Type} (z : α) (l : List α) : copyTo z l 0 = List.replicate l.length z := by simp [copyTo]
theorem copyTo_all {α : Type} {z : α} {l : List α} {i : Nat} (h : l.length ≤ i) : copyTo z l i = l := by
  rw [copyTo, List.take_of_length_le h, show l.length - i = 0 by omega]; simp
theorem copyTo_at {α : Type} {z : α} {l : List α} {i : Nat} (h : i < l.length) : (copyTo z l i)[i]? = some z := by
  have hm : (l.take i).length = i := by simp; omega
  rw [copyTo, List.getElem?_append_right (by omega), hm, Nat.sub_self, List.getElem?_replicate, if_pos (by omega)]
theorem copyTo_set {α : Type} {z : α} {l : List α} {i : Nat} (h : i < l.length) : (copyTo z l i).set i l[i] = copyTo z l (i + 1) := by
  have hm : (l.take i).length = i := by simp; omega
  rw [copyTo, List.set_append_right _ _ (by omega), hm, Nat.sub_self, copyTo, List.take_succ_eq_append_getElem h, List.append_assoc]
  have : l.length - i = (l.length - (i + 1)) + 1 := by omega
  rw [this, List.replicate_succ]
  rfl

theorem Rows'.at {α : Type} {E : Enc α} {w : World} {a : Option Addr} {cap : Nat} {l : List α} (h : Rows' E w (.slice a l.length cap) l) (i : Nat) (hi : i < l.length) :
    ∃ g off : Nat, a = some ⟨g, off, none⟩ ∧ ∀ w', Below w.heap.size w w' → ∀ k u, (E.f l[i])[k]? = some u → w'.cell? ⟨g, off + i * E.sz + k, none⟩ = some u := by
  rcases h.ways with ⟨h0, _⟩ | ⟨_, g, off, c, hv, hc, hg, hcl⟩
  · rw [h0] at hi; simp at hi
  · simp only [Value.slice.injEq] at hv
    exact ⟨g, off, hv.1, fun w' hb k u hu => (hb.cell (p := ⟨g, off + i * E.sz + k, none⟩) hg).trans (hcl i _ (List.getElem?_eq_getElem hi) k u hu)⟩

end Go.Proofs.Ythlbokfajiahpab
