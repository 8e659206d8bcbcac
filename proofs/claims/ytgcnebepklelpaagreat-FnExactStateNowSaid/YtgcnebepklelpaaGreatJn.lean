/- Texts of our own, joined. -/
import Derived.Test.YtgcnebepklelpaaGreatJl
import Derived.Test.YtgcnebepklelpaaGreatJm
import Derived.Test.YtgcnebepklelpaaGreatJd
import Derived.Shelf.SlSortCmp.WholeK
import Derived.Shelf.SlicesG.Cmp
import Derived.Test.YtgcnebepklelpaaGreatProg
/- What records tell: the program's ItemsOk. -/
namespace Go.Proofs.YtgcnebepklelpaaGreat
open Go.RowKit

theorem run_makeMap_hint {P : Program} {t k e : TypeId} (ht : P.underlying t = some (.map k e)) (n : Int) (w : World) : (Instr.makeMap t (some (.int .i64 n))).run P w = .ok (.map (some w.heap.size)) (w.alloc (.map #[] 0)) := by
  simp [Instr.makeMap, run_underlying ht, asInt, asIntOf, Result.andThen]

theorem wf_of {x : Int} (h1 : -9223372036854775808 ≤ x) (h2 : x ≤ 9223372036854775807) : (Lit.int .i64 x).wf = true := WalkArith.wf_i64 ⟨h1, h2⟩

def SeqF (l : List Itm) (i : Nat) (f : Int → Option Rc) : Prop := ∀ q r, f q = some r ↔ ((q, r) : Itm) ∈ l.take i
theorem SeqF.zero (l : List Itm) : SeqF l 0 (fun _ => none) := fun q r => by simp
theorem SeqF.next {l : List Itm} {i : Nat} {f : Int → Option Rc} {q : Int} {r : Rc} (h : SeqF l i f) (hx : l[i]? = some (q, r)) (hf : f q = none ∨ f q = some r) : SeqF l (i + 1) (fun y => if y = q then some r else f y) := by
  intro q' r'
  have e : l.take (i + 1) = l.take i ++ [(q, r)] := by rw [List.take_add_one, hx]; rfl
  rw [e, List.mem_append]
  by_cases c : q' = q
  · subst c
    simp only [if_true, Option.some.injEq, List.mem_singleton, Prod.mk.injEq, true_and]
    constructor
    · intro e2; exact .inr e2.symm
    · rintro (h1 | h1)
      · have := (h q' r').2 h1
        rcases hf with hf | hf
        · rw [hf] at this; cases this
        · rw [hf] at this; cases this; rfl
      · exact h1.symm
  · simp only [if_neg c, List.mem_singleton, Prod.mk.injEq]
    constructor
    · intro e2; exact .inl ((h q' r').1 e2)
    · rintro (h1 | h1)
      · exact (h q' r').2 h1
      · exact absurd h1.1 c
theorem SeqF.at' {l : List Itm} {i : Nat} {f : Int → Option Rc} (h : SeqF l i f) {q : Int} {r : Rc} (hf : f q = some r) : ∃ j, j < i ∧ l[j]? = some (q, r) := by
  have := (h q r).1 hf
  obtain ⟨j, hj, e⟩ := List.getElem_of_mem this
  have hj' : j < i ∧ j < l.length := by rw [List.length_take] at hj; omega
  refine ⟨j, hj'.1, ?_⟩
  rw [List.getElem_take] at e
  rw [List.getElem?_eq_getElem hj'.2, e]
theorem SeqF.none' {l : List Itm} {i : Nat} {f : Int → Option Rc} (h : SeqF l i f) {q : Int} (hf : f q = none) {j : Nat} {x : Itm} (hj : l[j]? = some x) (hl : j < i) : x.1 ≠ q := by
  intro e
  have : ((q, x.2) : Itm) ∈ l.take i := by
    rw [← e]
    exact List.mem_of_getElem? (i := j) (by rw [List.getElem?_take, if_pos hl]; exact hj)
  rw [(h q x.2).2 this] at hf
  cases hf

theorem rcv_inj (x y : Rc) (h : x.v = y.v) : x = y := by
  obtain ⟨a0, a1, a2, a3, a4, a5, a6, a7⟩ := x
  obtain ⟨b0, b1, b2, b3, b4, b5, b6, b7⟩ := y
  simp only [Rc.v] at h
  injection h with h
  simp only [Array.mk.injEq, List.cons.injEq, Value.int.injEq, Value.string.injEq, true_and, and_true] at h
  obtain ⟨rfl, rfl, rfl, rfl, rfl, rfl, rfl, rfl⟩ := h
  rfl

theorem frameNumberOk_yes (n : Int) (w : World) (h1 : 1 ≤ n) (h2 : n ≤ 1000000000) : Calls Tryz.prog 61 #[.int .i64 n] w fun e w' => e = .returned (.bool true) ∧ w = w' := by
  go_enter Tryz.func61, Tryz.ntmps61
  go_wp2
  go_ret
  simp
theorem frameNumberOk_no (n : Int) (w : World) (h : ¬ (1 ≤ n ∧ n ≤ 1000000000)) : Calls Tryz.prog 61 #[.int .i64 n] w fun e w' => e = .returned (.bool false) ∧ w = w' := by
  by_cases h1 : 1 ≤ n
  · have h2 : ¬ n ≤ 1000000000 := fun c => h ⟨h1, c⟩
    clear h
    go_enter Tryz.func61, Tryz.ntmps61
    go_wp2
    go_ret
    simp
  · clear h
    go_enter Tryz.func61, Tryz.ntmps61
    go_wp2
    go_ret
    simp

theorem rc_part {r s : Rc} (h : r ≠ s) : r.kind ≠ s.kind ∨ (r.kind = s.kind ∧ r.valid ≠ s.valid) ∨ (r.kind = s.kind ∧ r.valid = s.valid ∧ r.uid ≠ s.uid) ∨ (r.kind = s.kind ∧ r.valid = s.valid ∧ r.uid = s.uid ∧ r.next ≠ s.next) ∨ (r.kind = s.kind ∧ r.valid = s.valid ∧ r.uid = s.uid ∧ r.next = s.next ∧ r.flags ≠ s.flags) ∨
    (r.kind = s.kind ∧ r.valid = s.valid ∧ r.uid = s.uid ∧ r.next = s.next ∧ r.flags = s.flags ∧ r.user ≠ s.user) ∨ (r.kind = s.kind ∧ r.valid = s.valid ∧ r.uid = s.uid ∧ r.next = s.next ∧ r.flags = s.flags ∧ r.user = s.user ∧ r.name ≠ s.name) ∨ (r.kind = s.kind ∧ r.valid = s.valid ∧ r.uid = s.uid ∧ r.next = s.next ∧ r.flags = s.flags ∧ r.user = s.user ∧ r.name = s.name ∧ r.text ≠ s.text) := by
  obtain ⟨a0, a1, a2, a3, a4, a5, a6, a7⟩ := r
  obtain ⟨b0, b1, b2, b3, b4, b5, b6, b7⟩ := s
  simp only
  by_cases h0 : a0 = b0
  case neg => exact .inl h0
  by_cases h1 : a1 = b1
  case neg => exact .inr (.inl ⟨h0, h1⟩)
  by_cases h2 : a2 = b2
  case neg => exact .inr (.inr (.inl ⟨h0, h1, h2⟩))
  by_cases h3 : a3 = b3
  case neg => exact .inr (.inr (.inr (.inl ⟨h0, h1, h2, h3⟩)))
  by_cases h4 : a4 = b4
  case neg => exact .inr (.inr (.inr (.inr (.inl ⟨h0, h1, h2, h3, h4⟩))))
  by_cases h5 : a5 = b5
  case neg => exact .inr (.inr (.inr (.inr (.inr (.inl ⟨h0, h1, h2, h3, h4, h5⟩)))))
  by_cases h6 : a6 = b6
  case neg => exact .inr (.inr (.inr (.inr (.inr (.inr (.inl ⟨h0, h1, h2, h3, h4, h5, h6⟩))))))
  by_cases h7 : a7 = b7
  case neg => exact .inr (.inr (.inr (.inr (.inr (.inr (.inr ⟨h0, h1, h2, h3, h4, h5, h6, h7⟩))))))
  subst h0 h1 h2 h3 h4 h5 h6 h7
  exact absurd rfl h

def iK : KeyE Tryz.prog Int := intK 3 Tryz.underlying3

set_option maxRecDepth 100000 in
theorem zero_rec (w : World) : (zeroValue 67).run Tryz.prog w = .ok (Rc.nil.v) w := by kernel_rfl

set_option maxRecDepth 100000 in
set_option maxHeartbeats 4000000 in
theorem implItemsOk_any (l : List Itm) (v : Value) (w : World) (h : Rows' itE w v l) (hl : l.length ≤ 1099511627776) :
    Calls Tryz.prog 38 #[v] w fun e w' => e = .returned (.bool (decide (itemsOk l))) ∧ Below w.heap.size w w' := by
  obtain ⟨ad, cap, rfl, hrow⟩ := h.items
  have HR := Lib.hid hrow
  clear h hrow
  obtain ⟨D, hD⟩ : ∃ D, decide (itemsOk l) = D := ⟨_, rfl⟩
  have HD := Lib.hid hD
  rw [hD]
  clear hD
  have hmm := fun n wx => run_makeMap_hint (P := Tryz.prog) (t := 114) Tryz.underlying114 n wx
  by_cases hlen : l.length ≤ 200
  case neg =>
    have hgt : (200 : Int) < (l.length : Int) := by omega
    go_enter Tryz.func38, Tryz.ntmps38
    go_wp2
    go_ret
    exact ⟨by rw [← HD.out, decide_eq_false (fun c => hlen c.2.2)]; rfl, Below.refl _ _⟩
  have hgt : ¬ (200 : Int) < (l.length : Int) := by omega
  have M0 : MapIs iK Rc.v (w.alloc (.map #[] 0)) w.heap.size 0 (fun _ => none) := MapIs.made _ _ _
  have b0 := belNew w (.map #[] 0)
  go_enter Tryz.func38, Tryz.ntmps38
  go_wp2
  generalize w.alloc (.map #[] 0) = w1 at M0 b0 ⊢
  obtain ⟨g, hg⟩ : ∃ g, w.heap.size = g := ⟨_, rfl⟩
  rw [hg] at M0
  have hgle : Hid (w.heap.size ≤ g) := show _ ≤ _ by omega
  rw [hg]
  clear hg hmm
  go_loopw [16] (fun iv wr => ∃ (i : Nat) (f : Int → Option Rc), i ≤ l.length ∧ iv = .int .i64 (i : Int) ∧ ItG l i ∧ SeqF l i f ∧ MapIs iK Rc.v wr g i f ∧ Below w.heap.size w wr) (fun iv _ => l.length - (intOf iv).toNat)
  case atStart => exact ⟨0, _, by omega, rfl, ItG.zero l, SeqF.zero l, M0, b0⟩
  case round =>
    clear M0 b0
    obtain ⟨i, f, hi, rfl, hG, hF, hM, hb⟩ := hrel
    have HG := Lib.hid hG
    have HF := Lib.hid hF
    have HM := Lib.hid hM
    clear hG hF hM
    by_cases hlt : i < l.length
    · obtain ⟨x, hx⟩ : ∃ x, l[i]? = some x := ⟨_, List.getElem?_eq_getElem hlt⟩
      obtain ⟨ga, oa, rfl, a0, a1, a2, a3, a4, a5, a6, a7, a8⟩ := HR.out _ hb i _ hx
      have HX := Lib.hid hx
      obtain ⟨sq, K, V, U, N, FL, US, NM, TX⟩ := x
      simp only at a0 a1 a2 a3 a4 a5 a6 a7 a8
      have hi0 : (0 : Int) ≤ (i : Int) := by omega
      have hi1 : (i : Int) < (l.length : Int) := by omega
      clear hx
      have hbn : Below w.heap.size w (wr.alloc (.cells #[.int .i64 sq, .int .i64 K, .int .i64 V, .int .i64 U, .int .i64 N, .int .i64 FL, .string US, .string NM, .string TX] 69)) := hb.trans ((belNew wr _).mono hb.size)
      by_cases hs : 1 ≤ sq ∧ sq ≤ 1000000000
      case neg =>
        have HS := Lib.hid hs
        clear hs
        go_wp2_with (go_at_call 61; refine (frameNumberOk_no _ _ HS.out).mono ?_; rintro e w5 ⟨rfl, rfl⟩)
        go_ret
        exact ⟨by rw [← HD.out, items_bad HX.out (fun c => HS.out c.1)]; rfl, hbn⟩
      obtain ⟨hs1, hs2⟩ := hs
      have hRO := fun wx => implRecOk_any ⟨K, V, U, N, FL, US, NM, TX⟩ wx
      unfold Rc.v at hRO
      by_cases hok : (⟨K, V, U, N, FL, US, NM, TX⟩ : Rc).ok
      case neg =>
        rw [decide_eq_false hok] at hRO
        have HO := Lib.hid hok
        clear hok
        go_wp2_with (first | (go_at_call 61; refine (frameNumberOk_yes _ _ hs1 hs2).mono ?_; rintro e w5 ⟨rfl, rfl⟩) | (go_at_call 62; refine (hRO _).mono ?_; rintro e w6 ⟨rfl, hb6⟩))
        go_ret
        exact ⟨by rw [← HD.out, items_bad HX.out (fun c => HO.out c.2)]; rfl, hbn.trans (hb6.mono hbn.size)⟩
      rw [decide_eq_true hok] at hRO
      have HO := Lib.hid hok
      clear hok
      have hwf : iK.ok sq := wf_of (by omega) (by omega)
      have bR : Below wr.heap.size wr (wr.alloc (.cells #[.int .i64 sq, .int .i64 K, .int .i64 V, .int .i64 U, .int .i64 N, .int .i64 FL, .string US, .string NM, .string TX] 69)) := belNew wr _
      have XB := Box.new wr #[.int .i64 sq, .int .i64 K, .int .i64 V, .int .i64 U, .int .i64 N, .int .i64 FL, .string US, .string NM, .string TX] 69
      have HRO : Hid (∀ X, Below wr.heap.size wr X → Box X wr.heap.size #[.int .i64 sq, .int .i64 K, .int .i64 V, .int .i64 U, .int .i64 N, .int .i64 FL, .string US, .string NM, .string TX] 69 → Calls Tryz.prog 62 #[.agg #[.int .i64 K, .int .i64 V, .int .i64 U, .int .i64 N, .int .i64 FL, .string US, .string NM, .string TX]] X fun e w' => e = .returned (.bool true) ∧ Below wr.heap.size wr w' ∧ Box w' wr.heap.size #[.int .i64 sq, .int .i64 K, .int .i64 V, .int .i64 U, .int .i64 N, .int .i64 FL, .string US, .string NM, .string TX] 69) := fun X hX hB => (hRO X).mono fun e w' ⟨h1, h2⟩ => ⟨h1, hX.trans (h2.mono hX.size), hB.later h2⟩
      clear hRO
      cases hf : f sq with
      | none =>
        have HFS := Lib.hid hf
        clear hf
        go_wp2_with (first | (go_at_call 61; refine (frameNumberOk_yes _ _ hs1 hs2).mono ?_; rintro e w5 ⟨rfl, rfl⟩) | (go_at_call 62; refine (HRO.out _ bR XB).mono ?_; rintro e w6 ⟨rfl, hb6, XB6⟩; have hlk := (HM.out.later hb6).look_gone (t := 114) Tryz.underlying114 (zero_rec w6) hwf HFS.out true; change (Instr.lookup 114 (.map (some g)) (.int .i64 sq) true).run Tryz.prog w6 = .ok (.tuple #[Rc.nil.v, .bool false]) w6 at hlk; unfold Rc.nil Rc.v at hlk; obtain ⟨q0, q1, q2, q3, q4, q5, q6, q7, q8, _⟩ := XB6.nine; obtain ⟨p0, p1, p2, p3, p4, p5, p6, p7, p8, _⟩ := (XB6.later (belNew w6 (.cells #[.int .i64 0, .int .i64 0, .int .i64 0, .int .i64 0, .int .i64 0, .string emp, .string emp, .string emp] 67))).nine) | (at_mapUpdate; refine wpList_put rfl _ _ _ _ rfl iK Rc.v rcv_inj _ Tryz.underlying114 g i f rfl ((HM.out.later hb6).later (belNew _ _)) (by unfold maxLen; omega) sq ⟨K, V, U, N, FL, US, NM, TX⟩ rfl rfl hwf ?_; intro w8 hM8 hg8 hs8))
        go_wp2
        go_roundw
        case rel => exact ⟨i + 1, _, by omega, by go_num, HG.out.next HX.out ⟨⟨hs1, hs2⟩, HO.out⟩ (fun j y hj hji e => absurd e (HF.out.none' HFS.out hj hji)), HF.out.next HX.out (.inl HFS.out), hM8, (hb.trans ((hb6.trans ((belNew w6 _).mono hb6.size)).mono hb.size)).grown hg8 (Nat.le_trans hb.size (Nat.le_trans hb6.size (by simp))) (fun j hj => by cases hj; exact hgle.out)⟩
        case measure => simp [intOf]; omega
      | some r0 =>
        have HFS := Lib.hid hf
        clear hf
        by_cases hr : r0 = ⟨K, V, U, N, FL, US, NM, TX⟩
        · subst hr
          go_wp2_with (first | (go_at_call 61; refine (frameNumberOk_yes _ _ hs1 hs2).mono ?_; rintro e w5 ⟨rfl, rfl⟩) | (go_at_call 62; refine (HRO.out _ bR XB).mono ?_; rintro e w6 ⟨rfl, hb6, XB6⟩; have hlk := (HM.out.later hb6).look_there (t := 114) Tryz.underlying114 (zero_rec w6) hwf HFS.out true; change (Instr.lookup 114 (.map (some g)) (.int .i64 sq) true).run Tryz.prog w6 = .ok (.tuple #[Rc.v ⟨K, V, U, N, FL, US, NM, TX⟩, .bool true]) w6 at hlk; unfold Rc.v at hlk; obtain ⟨q0, q1, q2, q3, q4, q5, q6, q7, q8, _⟩ := XB6.nine; obtain ⟨p0, p1, p2, p3, p4, p5, p6, p7, p8, _⟩ := (XB6.later (belNew w6 (.cells #[.int .i64 K, .int .i64 V, .int .i64 U, .int .i64 N, .int .i64 FL, .string US, .string NM, .string TX] 67))).nine) | (at_mapUpdate; refine wpList_put rfl _ _ _ _ rfl iK Rc.v rcv_inj _ Tryz.underlying114 g i f rfl ((HM.out.later hb6).later (belNew _ _)) (by unfold maxLen; omega) sq ⟨K, V, U, N, FL, US, NM, TX⟩ rfl rfl hwf ?_; intro w8 hM8 hg8 hs8))
          go_wp2
          go_roundw
          case rel =>
            refine ⟨i + 1, _, by omega, by go_num, HG.out.next HX.out ⟨⟨hs1, hs2⟩, HO.out⟩ (fun j y hj hji e => ?_), HF.out.next HX.out (.inr HFS.out), hM8, (hb.trans ((hb6.trans ((belNew w6 _).mono hb6.size)).mono hb.size)).grown hg8 (Nat.le_trans hb.size (Nat.le_trans hb6.size (by simp))) (fun j hj => by cases hj; exact hgle.out)⟩
            obtain ⟨yq, yr⟩ := y
            simp only at e
            subst e
            have : f yq = some yr := (HF.out yq yr).2 (List.mem_of_getElem? (i := j) (by rw [List.getElem?_take, if_pos hji]; exact hj))
            rw [HFS.out] at this
            cases this
            rfl
          case measure => simp [intOf]; omega
        · have hp := rc_part hr
          have HP : Hid (decide (itemsOk l) = false) := by
            obtain ⟨j, hj, ej⟩ := HF.out.at' HFS.out
            exact items_part ej HX.out rfl (fun e => hr (Prod.mk.inj e).2)
          obtain ⟨K0, V0, U0, N0, FL0, US0, NM0, TX0⟩ := r0
          simp only at hp
          clear hr
          rcases hp with h0 | ⟨rfl, h0⟩ | ⟨rfl, rfl, h0⟩ | ⟨rfl, rfl, rfl, h0⟩ | ⟨rfl, rfl, rfl, rfl, h0⟩ | ⟨rfl, rfl, rfl, rfl, rfl, h0⟩ | ⟨rfl, rfl, rfl, rfl, rfl, rfl, h0⟩ | ⟨rfl, rfl, rfl, rfl, rfl, rfl, rfl, h0⟩
          all_goals (
            try have hba : ¬ (_ : List UInt8) = _ := fun e => h0 ((ba_same _ _).1 e)
            go_wp2_with (first | (go_at_call 61; refine (frameNumberOk_yes _ _ hs1 hs2).mono ?_; rintro e w5 ⟨rfl, rfl⟩) | (go_at_call 62; refine (HRO.out _ bR XB).mono ?_; rintro e w6 ⟨rfl, hb6, XB6⟩; have hlk := (HM.out.later hb6).look_there (t := 114) Tryz.underlying114 (zero_rec w6) hwf HFS.out true; dsimp only [iK, intK, Rc.v, if_true] at hlk; obtain ⟨q0, q1, q2, q3, q4, q5, q6, q7, q8, _⟩ := XB6.nine; have XB7 := fun cs t => (XB6.later (belNew w6 (.cells cs t))).nine))
            go_ret
            exact ⟨by rw [← HD.out, HP.out]; rfl, hb.trans ((hb6.trans ((belNew w6 _).mono hb6.size)).mono hb.size)⟩)
    · go_wp2
      go_ret
      have e : i = l.length := by omega
      subst e
      exact ⟨by rw [← HD.out, HG.out.done, decide_eq_true hlen]; rfl, hb⟩

end Go.Proofs.YtgcnebepklelpaaGreat

/- The library's sort and compare at the numbers of this program. -/
namespace Go.Proofs
open Go.Shelf
def Tryz.sortBox_ren : Go.Shelf.Ren := ⟨fun | 6 => 42 | 15 => 67 | 14 => 66 | 28 => 98 | 29 => 99 | 20 => 90 | 21 => 91 | 22 => 92 | 23 => 93 | 24 => 94 | 25 => 95 | 26 => 96 | 27 => 97 | 46 => 108 | 47 => 109 | 48 => 110 | 49 => 111 | 50 => 112 | 57 => 124 | n => n, fun | 22 => 33 | 24 => 78 | 25 => 92 | 3 => 3 | 39 => 123 | 0 => 0 | 53 => 159 | 55 => 161 | 4 => 4 | 46 => 152 | 45 => 151 | 50 => 156 | 5 => 5 | 9 => 9 | 66 => 183 | 70 => 187 | 76 => 197 | 77 => 198 | n => n, fun | n => n⟩
theorem Tryz.sortBox : Go.Proofs.SlLaysF0.n6 Tryz.prog Tryz.sortBox_ren := {
  mixed := by kernel_rfl
  f6 := ⟨Tryz.f42.name, by decide, Tryz.func42.trans (congrArg some (by kernel_rfl))⟩
  f14 := ⟨Tryz.f66.name, by decide, Tryz.func66.trans (congrArg some (by kernel_rfl))⟩
  f15 := Tryz.func67.trans (congrArg some (by kernel_rfl))
  f20 := ⟨Tryz.f90.name, by decide, Tryz.func90.trans (congrArg some (by kernel_rfl))⟩
  f21 := ⟨Tryz.f91.name, by decide, Tryz.func91.trans (congrArg some (by kernel_rfl))⟩
  f22 := ⟨Tryz.f92.name, by decide, Tryz.func92.trans (congrArg some (by kernel_rfl))⟩
  f23 := ⟨Tryz.f93.name, by decide, Tryz.func93.trans (congrArg some (by kernel_rfl))⟩
  f24 := ⟨Tryz.f94.name, by decide, Tryz.func94.trans (congrArg some (by kernel_rfl))⟩
  f25 := ⟨Tryz.f95.name, by decide, Tryz.func95.trans (congrArg some (by kernel_rfl))⟩
  f26 := ⟨Tryz.f96.name, by decide, Tryz.func96.trans (congrArg some (by kernel_rfl))⟩
  f27 := ⟨Tryz.f97.name, by decide, Tryz.func97.trans (congrArg some (by kernel_rfl))⟩
  f28 := Tryz.func98.trans (congrArg some (by kernel_rfl))
  f29 := Tryz.func99.trans (congrArg some (by kernel_rfl))
  f46 := ⟨Tryz.f108.name, by decide, Tryz.func108.trans (congrArg some (by kernel_rfl))⟩
  f47 := Tryz.func109.trans (congrArg some (by kernel_rfl))
  f48 := Tryz.func110.trans (congrArg some (by kernel_rfl))
  f49 := ⟨Tryz.f111.name, by decide, Tryz.func111.trans (congrArg some (by kernel_rfl))⟩
  f50 := ⟨Tryz.f112.name, by decide, Tryz.func112.trans (congrArg some (by kernel_rfl))⟩
  f57 := ⟨Tryz.f124.name, by decide, Tryz.func124.trans (congrArg some (by kernel_rfl))⟩
  t0 := Tryz.underlying0
  a0 := Tryz.isAgg0
  z0 := Tryz.sizeOf0
  v0 := Tryz.zeroValue0
  t3 := Tryz.underlying3
  a3 := Tryz.isAgg3
  z3 := Tryz.sizeOf3
  v3 := Tryz.zeroValue3
  t4 := Tryz.underlying4
  a4 := Tryz.isAgg4
  z4 := Tryz.sizeOf4
  v4 := Tryz.zeroValue4
  t5 := Tryz.underlying5
  a5 := Tryz.isAgg5
  z5 := Tryz.sizeOf5
  v5 := Tryz.zeroValue5
  t9 := Tryz.underlying9
  a9 := Tryz.isAgg9
  z9 := Tryz.sizeOf9
  v9 := Tryz.zeroValue9
  t22 := Tryz.underlying33
  a22 := Tryz.isAgg33
  z22 := Tryz.sizeOf33
  v22 := Tryz.zeroValue33
  t25 := Tryz.underlying92
  a25 := Tryz.isAgg92
  z25 := Tryz.sizeOf92
  v25 := Tryz.zeroValue92
  t39 := Tryz.underlying123
  a39 := Tryz.isAgg123
  z39 := Tryz.sizeOf123
  v39 := Tryz.zeroValue123
  t45 := Tryz.underlying151
  a45 := Tryz.isAgg151
  z45 := Tryz.sizeOf151
  v45 := Tryz.zeroValue151
  t46 := Tryz.underlying152
  a46 := Tryz.isAgg152
  z46 := Tryz.sizeOf152
  v46 := Tryz.zeroValue152
  t50 := Tryz.underlying156
  a50 := Tryz.isAgg156
  z50 := Tryz.sizeOf156
  v50 := Tryz.zeroValue156
  t53 := Tryz.underlying159
  a53 := Tryz.isAgg159
  z53 := Tryz.sizeOf159
  v53 := Tryz.zeroValue159
  t55 := Tryz.underlying161
  a55 := Tryz.isAgg161
  z55 := Tryz.sizeOf161
  v55 := Tryz.zeroValue161
  t66 := Tryz.underlying183
  a66 := Tryz.isAgg183
  z66 := Tryz.sizeOf183
  v66 := Tryz.zeroValue183
  t70 := Tryz.underlying187
  a70 := Tryz.isAgg187
  z70 := Tryz.sizeOf187
  v70 := Tryz.zeroValue187
  t76 := Tryz.underlying197
  a76 := Tryz.isAgg197
  z76 := Tryz.sizeOf197
  v76 := Tryz.zeroValue197
  t77 := Tryz.underlying198
  a77 := Tryz.isAgg198
  z77 := Tryz.sizeOf198
  v77 := Tryz.zeroValue198 }
def Tryz.sortMail_ren : Go.Shelf.Ren := ⟨fun | 6 => 88 | 15 => 67 | 14 => 107 | 28 => 98 | 29 => 99 | 20 => 116 | 21 => 117 | 22 => 118 | 23 => 119 | 24 => 120 | 25 => 121 | 26 => 122 | 27 => 123 | 46 => 126 | 47 => 109 | 48 => 110 | 49 => 127 | 50 => 128 | 57 => 129 | n => n, fun | 22 => 75 | 24 => 110 | 25 => 149 | 3 => 3 | 39 => 123 | 0 => 0 | 53 => 159 | 55 => 161 | 4 => 4 | 46 => 152 | 45 => 151 | 50 => 156 | 5 => 5 | 9 => 9 | 66 => 183 | 70 => 187 | 76 => 197 | 77 => 198 | n => n, fun | n => n⟩
theorem Tryz.sortMail : Go.Proofs.SlLaysF0.n6 Tryz.prog Tryz.sortMail_ren := {
  mixed := by kernel_rfl
  f6 := ⟨Tryz.f88.name, by decide, Tryz.func88.trans (congrArg some (by kernel_rfl))⟩
  f14 := ⟨Tryz.f107.name, by decide, Tryz.func107.trans (congrArg some (by kernel_rfl))⟩
  f15 := Tryz.func67.trans (congrArg some (by kernel_rfl))
  f20 := ⟨Tryz.f116.name, by decide, Tryz.func116.trans (congrArg some (by kernel_rfl))⟩
  f21 := ⟨Tryz.f117.name, by decide, Tryz.func117.trans (congrArg some (by kernel_rfl))⟩
  f22 := ⟨Tryz.f118.name, by decide, Tryz.func118.trans (congrArg some (by kernel_rfl))⟩
  f23 := ⟨Tryz.f119.name, by decide, Tryz.func119.trans (congrArg some (by kernel_rfl))⟩
  f24 := ⟨Tryz.f120.name, by decide, Tryz.func120.trans (congrArg some (by kernel_rfl))⟩
  f25 := ⟨Tryz.f121.name, by decide, Tryz.func121.trans (congrArg some (by kernel_rfl))⟩
  f26 := ⟨Tryz.f122.name, by decide, Tryz.func122.trans (congrArg some (by kernel_rfl))⟩
  f27 := ⟨Tryz.f123.name, by decide, Tryz.func123.trans (congrArg some (by kernel_rfl))⟩
  f28 := Tryz.func98.trans (congrArg some (by kernel_rfl))
  f29 := Tryz.func99.trans (congrArg some (by kernel_rfl))
  f46 := ⟨Tryz.f126.name, by decide, Tryz.func126.trans (congrArg some (by kernel_rfl))⟩
  f47 := Tryz.func109.trans (congrArg some (by kernel_rfl))
  f48 := Tryz.func110.trans (congrArg some (by kernel_rfl))
  f49 := ⟨Tryz.f127.name, by decide, Tryz.func127.trans (congrArg some (by kernel_rfl))⟩
  f50 := ⟨Tryz.f128.name, by decide, Tryz.func128.trans (congrArg some (by kernel_rfl))⟩
  f57 := ⟨Tryz.f129.name, by decide, Tryz.func129.trans (congrArg some (by kernel_rfl))⟩
  t0 := Tryz.underlying0
  a0 := Tryz.isAgg0
  z0 := Tryz.sizeOf0
  v0 := Tryz.zeroValue0
  t3 := Tryz.underlying3
  a3 := Tryz.isAgg3
  z3 := Tryz.sizeOf3
  v3 := Tryz.zeroValue3
  t4 := Tryz.underlying4
  a4 := Tryz.isAgg4
  z4 := Tryz.sizeOf4
  v4 := Tryz.zeroValue4
  t5 := Tryz.underlying5
  a5 := Tryz.isAgg5
  z5 := Tryz.sizeOf5
  v5 := Tryz.zeroValue5
  t9 := Tryz.underlying9
  a9 := Tryz.isAgg9
  z9 := Tryz.sizeOf9
  v9 := Tryz.zeroValue9
  t22 := Tryz.underlying75
  a22 := Tryz.isAgg75
  z22 := Tryz.sizeOf75
  v22 := Tryz.zeroValue75
  t25 := Tryz.underlying149
  a25 := Tryz.isAgg149
  z25 := Tryz.sizeOf149
  v25 := Tryz.zeroValue149
  t39 := Tryz.underlying123
  a39 := Tryz.isAgg123
  z39 := Tryz.sizeOf123
  v39 := Tryz.zeroValue123
  t45 := Tryz.underlying151
  a45 := Tryz.isAgg151
  z45 := Tryz.sizeOf151
  v45 := Tryz.zeroValue151
  t46 := Tryz.underlying152
  a46 := Tryz.isAgg152
  z46 := Tryz.sizeOf152
  v46 := Tryz.zeroValue152
  t50 := Tryz.underlying156
  a50 := Tryz.isAgg156
  z50 := Tryz.sizeOf156
  v50 := Tryz.zeroValue156
  t53 := Tryz.underlying159
  a53 := Tryz.isAgg159
  z53 := Tryz.sizeOf159
  v53 := Tryz.zeroValue159
  t55 := Tryz.underlying161
  a55 := Tryz.isAgg161
  z55 := Tryz.sizeOf161
  v55 := Tryz.zeroValue161
  t66 := Tryz.underlying183
  a66 := Tryz.isAgg183
  z66 := Tryz.sizeOf183
  v66 := Tryz.zeroValue183
  t70 := Tryz.underlying187
  a70 := Tryz.isAgg187
  z70 := Tryz.sizeOf187
  v70 := Tryz.zeroValue187
  t76 := Tryz.underlying197
  a76 := Tryz.isAgg197
  z76 := Tryz.sizeOf197
  v76 := Tryz.zeroValue197
  t77 := Tryz.underlying198
  a77 := Tryz.isAgg198
  z77 := Tryz.sizeOf198
  v77 := Tryz.zeroValue198 }
def Tryz.cmpInt_ren : Go.Shelf.Ren := ⟨fun | 5 => 68 | 7 => 100 | n => n, fun | 22 => 3 | 3 => 3 | 4 => 4 | n => n, fun | n => n⟩
theorem Tryz.cmpInt : Go.Proofs.SlLaysC2.n5 Tryz.prog Tryz.cmpInt_ren := {
  mixed := by kernel_rfl
  f5 := ⟨Tryz.f68.name, by decide, Tryz.func68.trans (congrArg some (by kernel_rfl))⟩
  f7 := ⟨Tryz.f100.name, by decide, Tryz.func100.trans (congrArg some (by kernel_rfl))⟩
  t3 := Tryz.underlying3
  a3 := Tryz.isAgg3
  z3 := Tryz.sizeOf3
  v3 := Tryz.zeroValue3
  t4 := Tryz.underlying4
  a4 := Tryz.isAgg4
  z4 := Tryz.sizeOf4
  v4 := Tryz.zeroValue4
  t22 := Tryz.underlying3
  a22 := Tryz.isAgg3
  z22 := Tryz.sizeOf3
  v22 := Tryz.zeroValue3 }
end Go.Proofs

/- How the records of a box are gathered in memory; the latest of a mail. -/
namespace Go.Proofs.YtgcnebepklelpaaGreat
open Go.RowKit

def itmV (x : Itm) : Value := itV x.1 x.2
theorem itmV_inj (x y : Itm) (h : itmV x = itmV y) : x = y := by
  obtain ⟨s, a0, a1, a2, a3, a4, a5, a6, a7⟩ := x
  obtain ⟨s', b0, b1, b2, b3, b4, b5, b6, b7⟩ := y
  simp only [itmV, itV] at h
  injection h with h
  simp only [Array.mk.injEq, List.cons.injEq, Value.int.injEq, Value.string.injEq, true_and, and_true] at h
  obtain ⟨rfl, rfl, rfl, rfl, rfl, rfl, rfl, rfl, rfl⟩ := h
  rfl
def ptrV (g : Nat) : Value := .pointer (some ⟨g, 0, none⟩)
theorem ptrV_inj (x y : Nat) (h : ptrV x = ptrV y) : x = y := by
  unfold ptrV at h
  injection h with h
  injection h with h
  injection h

def tbC (a : Nat) (t : Tb) : Array Value := #[.int .i64 t.named.1, .int .i64 t.named.2.kind, .int .i64 t.named.2.valid, .int .i64 t.named.2.uid, .int .i64 t.named.2.next, .int .i64 t.named.2.flags, .string t.named.2.user, .string t.named.2.name, .string t.named.2.text, .int .i64 t.next, .map (some a), .map (some (a + 1))]
structure TbAt (w : World) (a n : Nat) (t : Tb) : Prop where
  box : Box w (a + 2) (tbC a t) 89
  adds : MapIs iK itmV w a n t.adds
  flags : MapIs iK itmV w (a + 1) n t.flags
theorem TbAt.later {w w' : World} {a n : Nat} {t : Tb} (h : TbAt w a n t) (hb : Below w.heap.size w w') : TbAt w' a n t := ⟨h.box.later hb, h.adds.later hb, h.flags.later hb⟩
theorem TbAt.kept {w w' : World} {a n : Nat} {t : Tb} {r : Option Nat} (h : TbAt w a n t) (hg : w.grownBy w' r) (h0 : some a ≠ r) (h1 : some (a + 1) ≠ r) (h2 : some (a + 2) ≠ r) : TbAt w' a n t :=
  ⟨(hg.block _ h.box.lt h2).trans h.box, h.adds.kept hg h0, h.flags.kept hg h1⟩
theorem TbAt.mono {w : World} {a n n' : Nat} {t : Tb} (h : TbAt w a n t) (hn : n ≤ n') : TbAt w a n' t := ⟨h.box, h.adds.mono hn, h.flags.mono hn⟩
theorem TbAt.same {w w' : World} {a n : Nat} {t : Tb} (h : TbAt w a n t) (e0 : w'.heap[a]? = w.heap[a]?) (e1 : w'.heap[a + 1]? = w.heap[a + 1]?) (e2 : w'.heap[a + 2]? = w.heap[a + 2]?) : TbAt w' a n t :=
  ⟨e2.trans h.box, h.adds.same e0, h.flags.same e1⟩

set_option maxRecDepth 100000 in
theorem zero_item (w : World) : (zeroValue 69).run Tryz.prog w = .ok (itmV (0, Rc.nil)) w := by kernel_rfl

set_option maxRecDepth 100000 in
set_option maxHeartbeats 2000000 in
theorem keepLatest_any (f : Int → Option Itm) (x : Itm) (g n : Nat) (w : World) (h : MapIs iK itmV w g n f) (hn : n ≤ 1000000) (hu : iK.ok x.2.uid) :
    Calls Tryz.prog 86 #[.map (some g), itmV x] w fun e w' => e = .returned (.tuple #[]) ∧ MapIs iK itmV w' g (n + 1) (keepL f x) ∧ w.grownBy w' (some g) := by
  have gA := World.grownBy_alloc w (.cells #[.int .i64 x.1, .int .i64 x.2.kind, .int .i64 x.2.valid, .int .i64 x.2.uid, .int .i64 x.2.next, .int .i64 x.2.flags, .string x.2.user, .string x.2.name, .string x.2.text] 69) (some g)
  have M1 := h.later (belNew w (.cells #[.int .i64 x.1, .int .i64 x.2.kind, .int .i64 x.2.valid, .int .i64 x.2.uid, .int .i64 x.2.next, .int .i64 x.2.flags, .string x.2.user, .string x.2.name, .string x.2.text] 69))
  have X1 := Box.new w #[.int .i64 x.1, .int .i64 x.2.kind, .int .i64 x.2.valid, .int .i64 x.2.uid, .int .i64 x.2.next, .int .i64 x.2.flags, .string x.2.user, .string x.2.name, .string x.2.text] 69
  obtain ⟨z, hz, hzs⟩ : ∃ z : Itm, (Instr.lookup 87 (.map (some g)) (.int .i64 x.2.uid) false).run Tryz.prog (w.alloc (.cells #[.int .i64 x.1, .int .i64 x.2.kind, .int .i64 x.2.valid, .int .i64 x.2.uid, .int .i64 x.2.next, .int .i64 x.2.flags, .string x.2.user, .string x.2.name, .string x.2.text] 69)) = .ok (itmV z) (w.alloc (.cells #[.int .i64 x.1, .int .i64 x.2.kind, .int .i64 x.2.valid, .int .i64 x.2.uid, .int .i64 x.2.next, .int .i64 x.2.flags, .string x.2.user, .string x.2.name, .string x.2.text] 69)) ∧ sqO (f x.2.uid) = z.1 := by
    cases hf : f x.2.uid with
    | none => exact ⟨(0, Rc.nil), M1.look_gone (t := 87) Tryz.underlying87 (zero_item _) hu hf false, rfl⟩
    | some y => exact ⟨y, M1.look_there (t := 87) Tryz.underlying87 (zero_item _) hu hf false, rfl⟩
  have HZS := Lib.hid hzs
  have HM := Lib.hid M1
  have HU := Lib.hid hu
  have HGA := Lib.hid gA
  clear hzs M1 hu gA h
  obtain ⟨q0, q1, q2, q3, q4, q5, q6, q7, q8, _⟩ := X1.nine
  clear X1
  have hfd : ∀ wx, (Instr.field 69 (itmV z) 0).run Tryz.prog wx = .ok (.int .i64 z.1) wx := fun _ => by kernel_rfl
  by_cases hlt : z.1 < x.1
  · have HK : Hid (keepL f x = fun u => if u = x.2.uid then some x else f u) := keepL_lt (by rw [HZS.out]; exact hlt)
    obtain ⟨zs, zr⟩ := z
    obtain ⟨sq, K, V, U, N, FL, US, NM, TX⟩ := x
    unfold itmV itV at hz hfd ⊢
    simp only at hz hfd hlt HK HU HM HGA q0 q1 q2 q3 q4 q5 q6 q7 q8 ⊢
    go_enter Tryz.func86, Tryz.ntmps86
    go_wp2_with (at_mapUpdate; refine wpList_put rfl _ _ _ _ rfl iK itmV itmV_inj _ Tryz.underlying87 g n f rfl HM.out (by unfold maxLen; omega) U (sq, ⟨K, V, U, N, FL, US, NM, TX⟩) rfl rfl HU.out ?_; intro w8 hM8 hg8 hs8)
    go_end0
    exact ⟨rfl, by rw [HK.out]; exact hM8, HGA.out.trans hg8⟩
  · have HK : Hid (keepL f x = f) := keepL_ge (by rw [HZS.out]; exact hlt)
    obtain ⟨zs, zr⟩ := z
    obtain ⟨sq, K, V, U, N, FL, US, NM, TX⟩ := x
    unfold itmV itV at hz hfd ⊢
    simp only at hz hfd hlt HK HU HM HGA q0 q1 q2 q3 q4 q5 q6 q7 q8 ⊢
    go_enter Tryz.func86, Tryz.ntmps86
    go_wp2
    go_end0
    exact ⟨rfl, by rw [HK.out]; exact HM.out.mono (by omega), HGA.out⟩

theorem compare_any (x y : Int) (w : World) : Calls Tryz.prog 68 #[.int .i64 x, .int .i64 y] w fun e w' => e = .returned (.int .i64 (Lib.compareInt x y)) ∧ w = w' :=
  (AnyG.cmp_Compare_int Tryz.cmpInt x y w).mono fun _ _ ⟨h1, h2⟩ => ⟨h1, h2.symm⟩

set_option maxRecDepth 100000 in
set_option maxHeartbeats 1000000 in
theorem cmpOr_any (x y : Int) (g : Nat) (w : World) (h0 : w.cell? ⟨g, 0, none⟩ = some (.int .i64 x)) (h1 : w.cell? ⟨g, 1, none⟩ = some (.int .i64 y)) :
    Calls Tryz.prog 106 #[.slice (some ⟨g, 0, none⟩) 2 2] w fun e w' => e = .returned (.int .i64 (if x ≠ 0 then x else y)) ∧ w = w' := by
  obtain ⟨D, hD⟩ : ∃ D, (if x ≠ 0 then x else y) = D := ⟨_, rfl⟩
  have HD := Lib.hid hD
  rw [hD]
  clear hD
  go_enter Tryz.func106, Tryz.ntmps106
  go_wp2
  go_loopw [8] (fun iv wr => (iv = .int .i64 0 ∨ (iv = .int .i64 1 ∧ Hid (x = 0)) ∨ (iv = .int .i64 2 ∧ Hid (x = 0) ∧ Hid (y = 0))) ∧ w = wr) (fun iv _ => 2 - (intOf iv).toNat)
  case atStart => exact ⟨.inl rfl, rfl⟩
  case round =>
    obtain ⟨hc, rfl⟩ := hrel
    rcases hc with rfl | ⟨rfl, hx⟩ | ⟨rfl, hx, hy⟩
    · by_cases hx : x = 0
      · have HX := Lib.hid hx
        go_wp2
        exact ⟨⟨.inr (.inl ⟨by first | rfl | go_num, HX⟩), by trivial⟩, by simp [intOf]⟩
      · have HX := Lib.hid hx
        go_wp2
        go_ret
        exact ⟨by rw [← HD.out, if_pos HX.out]; rfl, rfl⟩
    · by_cases hy : y = 0
      · have HY := Lib.hid hy
        go_wp2
        exact ⟨⟨.inr (.inr ⟨by first | rfl | go_num, hx, HY⟩), by trivial⟩, by simp [intOf]⟩
      · go_wp2
        go_ret
        exact ⟨by rw [← HD.out, if_neg (fun c => c hx.out)]; rfl, rfl⟩
    · go_wp2
      go_ret
      exact ⟨by rw [← HD.out, if_neg (fun c => c hx.out), hy.out]; rfl, rfl⟩

end Go.Proofs.YtgcnebepklelpaaGreat

/- The records of a box gathered: one record more. -/
namespace Go.Proofs.YtgcnebepklelpaaGreat
open Go.RowKit

def nsC (x y : Itm) : Int := if Lib.compareInt x.2.next y.2.next ≠ 0 then Lib.compareInt x.2.next y.2.next else Lib.compareInt x.1 y.1
theorem nsC_pos (x y : Itm) : 0 < nsC x y ↔ aheadB (fun z => z.2.next) x y = true := by
  unfold nsC aheadB Lib.compareInt
  simp only [decide_eq_true_eq]
  by_cases h1 : x.2.next < y.2.next
  · simp [h1]; omega
  · by_cases h2 : y.2.next < x.2.next
    · simp [h1, h2]
    · have h3 : x.2.next = y.2.next := by omega
      simp only [h3, Int.lt_irrefl, if_false]
      by_cases h4 : x.1 < y.1
      · simp [h4]; omega
      · by_cases h5 : y.1 < x.1
        · simp [h4, h5]
        · simp [h4, h5]

set_option maxRecDepth 100000 in
set_option maxHeartbeats 2000000 in
theorem byNextAndSeq_any (x y : Itm) (w : World) : Calls Tryz.prog 85 #[itmV x, itmV y] w fun e w' => e = .returned (.int .i64 (nsC x y)) ∧ Below w.heap.size w w' := by
  have X0 := (Box.new w #[.int .i64 x.1, .int .i64 x.2.kind, .int .i64 x.2.valid, .int .i64 x.2.uid, .int .i64 x.2.next, .int .i64 x.2.flags, .string x.2.user, .string x.2.name, .string x.2.text] 69).later (belNew _ (.cells #[.int .i64 y.1, .int .i64 y.2.kind, .int .i64 y.2.valid, .int .i64 y.2.uid, .int .i64 y.2.next, .int .i64 y.2.flags, .string y.2.user, .string y.2.name, .string y.2.text] 69))
  have X1 := Box.new (w.alloc (.cells #[.int .i64 x.1, .int .i64 x.2.kind, .int .i64 x.2.valid, .int .i64 x.2.uid, .int .i64 x.2.next, .int .i64 x.2.flags, .string x.2.user, .string x.2.name, .string x.2.text] 69)) #[.int .i64 y.1, .int .i64 y.2.kind, .int .i64 y.2.valid, .int .i64 y.2.uid, .int .i64 y.2.next, .int .i64 y.2.flags, .string y.2.user, .string y.2.name, .string y.2.text] 69
  rw [show (w.alloc (.cells #[.int .i64 x.1, .int .i64 x.2.kind, .int .i64 x.2.valid, .int .i64 x.2.uid, .int .i64 x.2.next, .int .i64 x.2.flags, .string x.2.user, .string x.2.name, .string x.2.text] 69)).heap.size = w.heap.size + 1 from by simp] at X1
  have b1 : Below w.heap.size w ((w.alloc (.cells #[.int .i64 x.1, .int .i64 x.2.kind, .int .i64 x.2.valid, .int .i64 x.2.uid, .int .i64 x.2.next, .int .i64 x.2.flags, .string x.2.user, .string x.2.name, .string x.2.text] 69)).alloc (.cells #[.int .i64 y.1, .int .i64 y.2.kind, .int .i64 y.2.valid, .int .i64 y.2.uid, .int .i64 y.2.next, .int .i64 y.2.flags, .string y.2.user, .string y.2.name, .string y.2.text] 69)) := ((Below.refl _ _).alloc (Nat.le_refl _) _).alloc (by simp) _
  obtain ⟨D, hD⟩ : ∃ D, nsC x y = D := ⟨_, rfl⟩
  have HD := Lib.hid hD
  rw [hD]
  clear hD
  unfold itmV itV
  go_enter Tryz.func85, Tryz.ntmps85
  go_upto_region 1 with fail
  generalize (w.alloc (.cells #[.int .i64 x.1, .int .i64 x.2.kind, .int .i64 x.2.valid, .int .i64 x.2.uid, .int .i64 x.2.next, .int .i64 x.2.flags, .string x.2.user, .string x.2.name, .string x.2.text] 69)).alloc (.cells #[.int .i64 y.1, .int .i64 y.2.kind, .int .i64 y.2.valid, .int .i64 y.2.uid, .int .i64 y.2.next, .int .i64 y.2.flags, .string y.2.user, .string y.2.name, .string y.2.text] 69) = w1 at X0 X1 b1 ⊢
  obtain ⟨g1, hg1⟩ : ∃ g1, w.heap.size + 1 = g1 := ⟨_, rfl⟩
  rw [hg1] at X1 ⊢
  obtain ⟨g0, hg0⟩ : ∃ g0, w.heap.size = g0 := ⟨_, rfl⟩
  rw [hg0] at X0
  have r0 : ∀ X, Below w1.heap.size w1 X → X.cell? ⟨g0, 4, none⟩ = some (.int .i64 x.2.next) := fun X hb => (X0.later hb).cell 4 _ rfl
  have r1 : ∀ X, Below w1.heap.size w1 X → X.cell? ⟨g1, 4, none⟩ = some (.int .i64 y.2.next) := fun X hb => (X1.later hb).cell 4 _ rfl
  have r2 : ∀ X, Below w1.heap.size w1 X → X.cell? ⟨g0, 0, none⟩ = some (.int .i64 x.1) := fun X hb => (X0.later hb).cell 0 _ rfl
  have r3 : ∀ X, Below w1.heap.size w1 X → X.cell? ⟨g1, 0, none⟩ = some (.int .i64 y.1) := fun X hb => (X1.later hb).cell 0 _ rfl
  have HB := Lib.hid b1
  have HG0 := Lib.hid hg0
  have HG1 := Lib.hid hg1
  rw [hg0]
  clear X0 X1 b1 hg0 hg1
  refine wp_region_held_drew (S := fun x => Below w1.heap.size w1 x) (by kernel_rfl) ((Below.refl _ _).drew) (fun hHeld => ?_)
  refine takeL (i := 0) (v := .pointer (some ⟨g0, 1, none⟩)) rfl (by kernel_rfl) (by kernel_rfl) (by kernel_rfl) (fun _ _ _ h => h) (Or.inl ⟨by rfl, ?_⟩) (by assumption) ?_
  · intro x hSx; go_simp
  try simp only [Act.put, List.setIfInBounds_toArray, List.set_cons_zero, List.set_cons_succ]
  refine takeL (i := 1) (v := .pointer (some ⟨g0, 4, none⟩)) rfl (by kernel_rfl) (by kernel_rfl) (by kernel_rfl) (fun _ _ _ h => h) (Or.inl ⟨by rfl, ?_⟩) (by assumption) ?_
  · intro x hSx; go_simp
  try simp only [Act.put, List.setIfInBounds_toArray, List.set_cons_zero, List.set_cons_succ]
  refine takeL (i := 2) (v := .int .i64 x.2.next) rfl (by kernel_rfl) (by kernel_rfl) (by kernel_rfl) (fun _ _ _ h => h) (Or.inl ⟨by rfl, ?_⟩) (by assumption) ?_
  · intro x hSx; have q0 := r0 x hSx; go_simp
  try simp only [Act.put, List.setIfInBounds_toArray, List.set_cons_zero, List.set_cons_succ]
  refine takeL (i := 3) (v := .pointer (some ⟨g1, 1, none⟩)) rfl (by kernel_rfl) (by kernel_rfl) (by kernel_rfl) (fun _ _ _ h => h) (Or.inl ⟨by rfl, ?_⟩) (by assumption) ?_
  · intro x hSx; go_simp
  try simp only [Act.put, List.setIfInBounds_toArray, List.set_cons_zero, List.set_cons_succ]
  refine takeL (i := 4) (v := .pointer (some ⟨g1, 4, none⟩)) rfl (by kernel_rfl) (by kernel_rfl) (by kernel_rfl) (fun _ _ _ h => h) (Or.inl ⟨by rfl, ?_⟩) (by assumption) ?_
  · intro x hSx; go_simp
  try simp only [Act.put, List.setIfInBounds_toArray, List.set_cons_zero, List.set_cons_succ]
  refine takeL (i := 5) (v := .int .i64 y.2.next) rfl (by kernel_rfl) (by kernel_rfl) (by kernel_rfl) (fun _ _ _ h => h) (Or.inl ⟨by rfl, ?_⟩) (by assumption) ?_
  · intro x hSx; have q0 := r1 x hSx; go_simp
  try simp only [Act.put, List.setIfInBounds_toArray, List.set_cons_zero, List.set_cons_succ]
  refine takeL (i := 7) (v := .pointer (some ⟨g0, 0, none⟩)) rfl (by kernel_rfl) (by kernel_rfl) (by kernel_rfl) (fun _ _ _ h => h) (Or.inl ⟨by rfl, ?_⟩) (by assumption) ?_
  · intro x hSx; go_simp
  try simp only [Act.put, List.setIfInBounds_toArray, List.set_cons_zero, List.set_cons_succ]
  refine takeL (i := 8) (v := .int .i64 x.1) rfl (by kernel_rfl) (by kernel_rfl) (by kernel_rfl) (fun _ _ _ h => h) (Or.inl ⟨by rfl, ?_⟩) (by assumption) ?_
  · intro x hSx; have q0 := r2 x hSx; go_simp
  try simp only [Act.put, List.setIfInBounds_toArray, List.set_cons_zero, List.set_cons_succ]
  refine takeL (i := 9) (v := .pointer (some ⟨g1, 0, none⟩)) rfl (by kernel_rfl) (by kernel_rfl) (by kernel_rfl) (fun _ _ _ h => h) (Or.inl ⟨by rfl, ?_⟩) (by assumption) ?_
  · intro x hSx; go_simp
  try simp only [Act.put, List.setIfInBounds_toArray, List.set_cons_zero, List.set_cons_succ]
  refine takeL (i := 10) (v := .int .i64 y.1) rfl (by kernel_rfl) (by kernel_rfl) (by kernel_rfl) (fun _ _ _ h => h) (Or.inl ⟨by rfl, ?_⟩) (by assumption) ?_
  · intro x hSx; have q0 := r3 x hSx; go_simp
  try simp only [Act.put, List.setIfInBounds_toArray, List.set_cons_zero, List.set_cons_succ]
  refine wpAnyH_ready (rs := [6]) (by kernel_rfl) (by simp) ?_
  refine readyOne rfl (fun K' hK => ?_)
  go_simp
  refine (compare_any _ _ _).mono ?_
  rintro e wT ⟨rfl, rfl⟩
  go_wp2_with fail
  refine hK.out _ _ (hHeld) (fun hS2 => ?_)
  clear hK K' hHeld
  have hHeld := hS2
  clear hS2
  try simp only [Act.put, List.setIfInBounds_toArray, List.set_cons_zero, List.set_cons_succ]
  refine wpAnyH_ready (rs := [11]) (by kernel_rfl) (by simp) ?_
  refine readyOne rfl (fun K' hK => ?_)
  go_simp
  refine (compare_any _ _ _).mono ?_
  rintro e wT ⟨rfl, rfl⟩
  go_wp2_with fail
  refine hK.out _ _ (hHeld) (fun hS2 => ?_)
  clear hK K' hHeld
  have hHeld := hS2
  clear hS2
  try simp only [Act.put, List.setIfInBounds_toArray, List.set_cons_zero, List.set_cons_succ]
  refine wpAnyH_ready (rs := [12]) (by kernel_rfl) (by simp) ?_
  refine readyOne rfl (fun K' hK => ?_)
  go_simp
  refine hK.out _ _ (belNew0 w1 _) (fun hS2 => ?_)
  clear hK K' hHeld
  have hHeld := hS2
  clear hS2
  try simp only [Act.put, List.setIfInBounds_toArray, List.set_cons_zero, List.set_cons_succ]
  have XN := Box.new w1 #[.int .i64 (Lib.compareInt x.2.next y.2.next), .int .i64 (Lib.compareInt x.1 y.1)] 3
  have z0 : (w1.alloc (.cells #[.int .i64 (Lib.compareInt x.2.next y.2.next), .int .i64 (Lib.compareInt x.1 y.1)] 3)).drew.cell? ⟨w1.heap.size, 0, none⟩ = some (.int .i64 (Lib.compareInt x.2.next y.2.next)) := XN.cell 0 _ rfl
  have z1 : (w1.alloc (.cells #[.int .i64 (Lib.compareInt x.2.next y.2.next), .int .i64 (Lib.compareInt x.1 y.1)] 3)).drew.cell? ⟨w1.heap.size, 1, none⟩ = some (.int .i64 (Lib.compareInt x.1 y.1)) := XN.cell 1 _ rfl
  have HOR := Lib.hid (cmpOr_any _ _ _ _ z0 z1)
  clear XN z0 z1
  generalize (w1.alloc (.cells #[.int .i64 (Lib.compareInt x.2.next y.2.next), .int .i64 (Lib.compareInt x.1 y.1)] 3)).drew = w2 at HOR hHeld ⊢
  rw [show (if Lib.compareInt x.2.next y.2.next ≠ 0 then Lib.compareInt x.2.next y.2.next else Lib.compareInt x.1 y.1) = D from HD.out] at HOR
  refine wpAnyH_ready (rs := [13]) (by kernel_rfl) (by simp) ?_
  refine readyOne rfl (fun K' hK => ?_)
  go_simp
  refine HOR.out.mono ?_
  rintro e wT ⟨rfl, rfl⟩
  go_wp2_with fail
  refine hK.out _ _ hHeld (fun hS2 => ?_)
  clear hK K' hHeld
  have hHeld := hS2
  clear hS2
  try simp only [Act.put, List.setIfInBounds_toArray, List.set_cons_zero, List.set_cons_succ]
  refine takeL (i := 14) (v := .int .i64 D) rfl (by kernel_rfl) (by kernel_rfl) (by kernel_rfl) (fun _ _ _ h => h) (Or.inl ⟨by rfl, ?_⟩) (by assumption) ?_
  · intro x hSx; go_simp
  try simp only [Act.put, List.setIfInBounds_toArray, List.set_cons_zero, List.set_cons_succ]
  refine wpAnyH_done (by kernel_rfl) ?_ _
  go_wp2
  go_ret
  exact ⟨rfl, HB.out.trans (hHeld.mono HB.out.size)⟩

end Go.Proofs.YtgcnebepklelpaaGreat
