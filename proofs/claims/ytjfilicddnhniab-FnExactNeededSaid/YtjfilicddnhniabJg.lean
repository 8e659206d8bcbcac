/- Texts of our own, joined. -/
import Derived.Test.YtjfilicddnhniabJe
import Derived.Test.YtjfilicddnhniabJf
import Derived.Test.YtjfilicddnhniabJd
import Derived.Shelf.SlSortCmp.WholeK
import Derived.Shelf.SlicesG.Cmp
import Derived.Test.YtjfilicddnhniabProg
/- What records tell: the program's ItemsOk. -/
namespace Go.Proofs.Ytjfilicddnhniab
open Go.RowKit

theorem run_makeMap_hint {P : Program} {t k e : TypeId} (ht : P.underlying t = some (.map k e)) (n : Int) (w : World) : (Instr.makeMap t (some (.int .i64 n))).run P w = .ok (.map (some w.heap.size)) (w.alloc (.map #[] 0)) := by
  simp [Instr.makeMap, run_underlying ht, asInt, asIntOf, Result.andThen]

theorem wf_of {x : Int} (h1 : -9223372036854775808 ≤ x) (h2 : x ≤ 9223372036854775807) : (Lit.int .i64 x).wf = true := WalkArith.wf_i64 ⟨h1, h2⟩

/-- A map from a Seq to its record holds the first i items. -/
def SeqF (l : List Itm) (i : Nat) (f : Int → Option Rc) : Prop := ∀ q r, f q = some r ↔ ((q, r) : Itm) ∈ l.take i
theorem SeqF.zero (l : List Itm) : SeqF l 0 (fun _ => none) := fun q r => by simp
theorem SeqF.next {l : List Itm} {i : Nat} {f : Int → Option Rc} {q : Int} {r : Rc} (h : SeqF l i f) (hx : l[i]? = some (q, r)) (hf : f q = none ∨ f q = some r) : SeqF l (i + 1) (fun y => if y = q then some r else f y) := by
  intro q' r'
  have e : l.take (i + 1) = l.take i ++ [(q, r)] := by rw [List.take_add_one, hx]; rfl
  rw [e, List.mem_append]
  by_cases c : q' = q
  · subst c
    simp only [if_true, Option.some.injEq, List.mem_singleton, Prod.mk.injEq, true_and]
    constructor
    · intro e2; exact .inr e2.symm
    · rintro (h1 | h1)
      · have := (h q' r').2 h1
        rcases hf with hf | hf
        · rw [hf] at this; cases this
        · rw [hf] at this; cases this; rfl
      · exact h1.symm
  · simp only [if_neg c, List.mem_singleton, Prod.mk.injEq]
    constructor
    · intro e2; exact .inl ((h q' r').1 e2)
    · rintro (h1 | h1)
      · exact (h q' r').2 h1
      · exact absurd h1.1 c
theorem SeqF.at' {l : List Itm} {i : Nat} {f : Int → Option Rc} (h : SeqF l i f) {q : Int} {r : Rc} (hf : f q = some r) : ∃ j, j < i ∧ l[j]? = some (q, r) := by
  have := (h q r).1 hf
  obtain ⟨j, hj, e⟩ := List.getElem_of_mem this
  have hj' : j < i ∧ j < l.length := by rw [List.length_take] at hj; omega
  refine ⟨j, hj'.1, ?_⟩
  rw [List.getElem_take] at e
  rw [List.getElem?_eq_getElem hj'.2, e]
theorem SeqF.none' {l : List Itm} {i : Nat} {f : Int → Option Rc} (h : SeqF l i f) {q : Int} (hf : f q = none) {j : Nat} {x : Itm} (hj : l[j]? = some x) (hl : j < i) : x.1 ≠ q := by
  intro e
  have : ((q, x.2) : Itm) ∈ l.take i := by
    rw [← e]
    exact List.mem_of_getElem? (i := j) (by rw [List.getElem?_take, if_pos hl]; exact hj)
  rw [(h q x.2).2 this] at hf
  cases hf

theorem rcv_inj (x y : Rc) (h : x.v = y.v) : x = y := by
  obtain ⟨a0, a1, a2, a3, a4, a5, a6, a7⟩ := x
  obtain ⟨b0, b1, b2, b3, b4, b5, b6, b7⟩ := y
  simp only [Rc.v] at h
  injection h with h
  simp only [Array.mk.injEq, List.cons.injEq, Value.int.injEq, Value.string.injEq, true_and, and_true] at h
  obtain ⟨rfl, rfl, rfl, rfl, rfl, rfl, rfl, rfl⟩ := h
  rfl

theorem frameNumberOk_yes (n : Int) (w : World) (h1 : 1 ≤ n) (h2 : n ≤ 1000000000) : Calls Try.prog 74 #[.int .i64 n] w fun e w' => e = .returned (.bool true) ∧ w = w' := by
  go_enter Try.func74, Try.ntmps74
  go_wp2
  go_ret
  simp
theorem frameNumberOk_no (n : Int) (w : World) (h : ¬ (1 ≤ n ∧ n ≤ 1000000000)) : Calls Try.prog 74 #[.int .i64 n] w fun e w' => e = .returned (.bool false) ∧ w = w' := by
  by_cases h1 : 1 ≤ n
  · have h2 : ¬ n ≤ 1000000000 := fun c => h ⟨h1, c⟩
    clear h
    go_enter Try.func74, Try.ntmps74
    go_wp2
    go_ret
    simp
  · clear h
    go_enter Try.func74, Try.ntmps74
    go_wp2
    go_ret
    simp

theorem rc_part {r s : Rc} (h : r ≠ s) : r.kind ≠ s.kind ∨ (r.kind = s.kind ∧ r.valid ≠ s.valid) ∨ (r.kind = s.kind ∧ r.valid = s.valid ∧ r.uid ≠ s.uid) ∨ (r.kind = s.kind ∧ r.valid = s.valid ∧ r.uid = s.uid ∧ r.next ≠ s.next) ∨ (r.kind = s.kind ∧ r.valid = s.valid ∧ r.uid = s.uid ∧ r.next = s.next ∧ r.flags ≠ s.flags) ∨
    (r.kind = s.kind ∧ r.valid = s.valid ∧ r.uid = s.uid ∧ r.next = s.next ∧ r.flags = s.flags ∧ r.user ≠ s.user) ∨ (r.kind = s.kind ∧ r.valid = s.valid ∧ r.uid = s.uid ∧ r.next = s.next ∧ r.flags = s.flags ∧ r.user = s.user ∧ r.name ≠ s.name) ∨ (r.kind = s.kind ∧ r.valid = s.valid ∧ r.uid = s.uid ∧ r.next = s.next ∧ r.flags = s.flags ∧ r.user = s.user ∧ r.name = s.name ∧ r.text ≠ s.text) := by
  obtain ⟨a0, a1, a2, a3, a4, a5, a6, a7⟩ := r
  obtain ⟨b0, b1, b2, b3, b4, b5, b6, b7⟩ := s
  simp only
  by_cases h0 : a0 = b0
  case neg => exact .inl h0
  by_cases h1 : a1 = b1
  case neg => exact .inr (.inl ⟨h0, h1⟩)
  by_cases h2 : a2 = b2
  case neg => exact .inr (.inr (.inl ⟨h0, h1, h2⟩))
  by_cases h3 : a3 = b3
  case neg => exact .inr (.inr (.inr (.inl ⟨h0, h1, h2, h3⟩)))
  by_cases h4 : a4 = b4
  case neg => exact .inr (.inr (.inr (.inr (.inl ⟨h0, h1, h2, h3, h4⟩))))
  by_cases h5 : a5 = b5
  case neg => exact .inr (.inr (.inr (.inr (.inr (.inl ⟨h0, h1, h2, h3, h4, h5⟩)))))
  by_cases h6 : a6 = b6
  case neg => exact .inr (.inr (.inr (.inr (.inr (.inr (.inl ⟨h0, h1, h2, h3, h4, h5, h6⟩))))))
  by_cases h7 : a7 = b7
  case neg => exact .inr (.inr (.inr (.inr (.inr (.inr (.inr ⟨h0, h1, h2, h3, h4, h5, h6, h7⟩))))))
  subst h0 h1 h2 h3 h4 h5 h6 h7
  exact absurd rfl h

/-- The keys of a map from whole numbers. -/
def iK : KeyE Try.prog Int := intK 3 Try.underlying3

set_option maxRecDepth 100000 in
theorem zero_rec (w : World) : (zeroValue 77).run Try.prog w = .ok (Rc.nil.v) w := by kernel_rfl

set_option maxRecDepth 100000 in
set_option maxHeartbeats 4000000 in
theorem implItemsOk_any (l : List Itm) (v : Value) (w : World) (h : Rows' itE w v l) (hl : l.length ≤ 1099511627776) :
    Calls Try.prog 50 #[v] w fun e w' => e = .returned (.bool (decide (itemsOk l))) ∧ Below w.heap.size w w' := by
  obtain ⟨ad, cap, rfl, hrow⟩ := h.items
  have HR := Lib.hid hrow
  clear h hrow
  obtain ⟨D, hD⟩ : ∃ D, decide (itemsOk l) = D := ⟨_, rfl⟩
  have HD := Lib.hid hD
  rw [hD]
  clear hD
  have hmm := fun n wx => run_makeMap_hint (P := Try.prog) (t := 108) Try.underlying108 n wx
  by_cases hlen : l.length ≤ 200
  case neg =>
    have hgt : (200 : Int) < (l.length : Int) := by omega
    go_enter Try.func50, Try.ntmps50
    go_wp2
    go_ret
    exact ⟨by rw [← HD.out, decide_eq_false (fun c => hlen c.2.2)]; rfl, Below.refl _ _⟩
  have hgt : ¬ (200 : Int) < (l.length : Int) := by omega
  have M0 : MapIs iK Rc.v (w.alloc (.map #[] 0)) w.heap.size 0 (fun _ => none) := MapIs.made _ _ _
  have b0 := belNew w (.map #[] 0)
  go_enter Try.func50, Try.ntmps50
  go_wp2
  generalize w.alloc (.map #[] 0) = w1 at M0 b0 ⊢
  obtain ⟨g, hg⟩ : ∃ g, w.heap.size = g := ⟨_, rfl⟩
  rw [hg] at M0
  have hgle : Hid (w.heap.size ≤ g) := show _ ≤ _ by omega
  rw [hg]
  clear hg hmm
  go_loopw [16] (fun iv wr => ∃ (i : Nat) (f : Int → Option Rc), i ≤ l.length ∧ iv = .int .i64 (i : Int) ∧ ItG l i ∧ SeqF l i f ∧ MapIs iK Rc.v wr g i f ∧ Below w.heap.size w wr) (fun iv _ => l.length - (intOf iv).toNat)
  case atStart => exact ⟨0, _, by omega, rfl, ItG.zero l, SeqF.zero l, M0, b0⟩
  case round =>
    clear M0 b0
    obtain ⟨i, f, hi, rfl, hG, hF, hM, hb⟩ := hrel
    have HG := Lib.hid hG
    have HF := Lib.hid hF
    have HM := Lib.hid hM
    clear hG hF hM
    by_cases hlt : i < l.length
    · obtain ⟨x, hx⟩ : ∃ x, l[i]? = some x := ⟨_, List.getElem?_eq_getElem hlt⟩
      obtain ⟨ga, oa, rfl, a0, a1, a2, a3, a4, a5, a6, a7, a8⟩ := HR.out _ hb i _ hx
      have HX := Lib.hid hx
      obtain ⟨sq, K, V, U, N, FL, US, NM, TX⟩ := x
      simp only at a0 a1 a2 a3 a4 a5 a6 a7 a8
      have hi0 : (0 : Int) ≤ (i : Int) := by omega
      have hi1 : (i : Int) < (l.length : Int) := by omega
      clear hx
      have hbn : Below w.heap.size w (wr.alloc (.cells #[.int .i64 sq, .int .i64 K, .int .i64 V, .int .i64 U, .int .i64 N, .int .i64 FL, .string US, .string NM, .string TX] 79)) := hb.trans ((belNew wr _).mono hb.size)
      by_cases hs : 1 ≤ sq ∧ sq ≤ 1000000000
      case neg =>
        have HS := Lib.hid hs
        clear hs
        go_wp2_with (go_at_call 74; refine (frameNumberOk_no _ _ HS.out).mono ?_; rintro e w5 ⟨rfl, rfl⟩)
        go_ret
        exact ⟨by rw [← HD.out, items_bad HX.out (fun c => HS.out c.1)]; rfl, hbn⟩
      obtain ⟨hs1, hs2⟩ := hs
      have hRO := fun wx => implRecOk_any ⟨K, V, U, N, FL, US, NM, TX⟩ wx
      unfold Rc.v at hRO
      by_cases hok : (⟨K, V, U, N, FL, US, NM, TX⟩ : Rc).ok
      case neg =>
        rw [decide_eq_false hok] at hRO
        have HO := Lib.hid hok
        clear hok
        go_wp2_with (first | (go_at_call 74; refine (frameNumberOk_yes _ _ hs1 hs2).mono ?_; rintro e w5 ⟨rfl, rfl⟩) | (go_at_call 75; refine (hRO _).mono ?_; rintro e w6 ⟨rfl, hb6⟩))
        go_ret
        exact ⟨by rw [← HD.out, items_bad HX.out (fun c => HO.out c.2)]; rfl, hbn.trans (hb6.mono hbn.size)⟩
      rw [decide_eq_true hok] at hRO
      have HO := Lib.hid hok
      clear hok
      have hwf : iK.ok sq := wf_of (by omega) (by omega)
      have bR : Below wr.heap.size wr (wr.alloc (.cells #[.int .i64 sq, .int .i64 K, .int .i64 V, .int .i64 U, .int .i64 N, .int .i64 FL, .string US, .string NM, .string TX] 79)) := belNew wr _
      have XB := Box.new wr #[.int .i64 sq, .int .i64 K, .int .i64 V, .int .i64 U, .int .i64 N, .int .i64 FL, .string US, .string NM, .string TX] 79
      have HRO : Hid (∀ X, Below wr.heap.size wr X → Box X wr.heap.size #[.int .i64 sq, .int .i64 K, .int .i64 V, .int .i64 U, .int .i64 N, .int .i64 FL, .string US, .string NM, .string TX] 79 → Calls Try.prog 75 #[.agg #[.int .i64 K, .int .i64 V, .int .i64 U, .int .i64 N, .int .i64 FL, .string US, .string NM, .string TX]] X fun e w' => e = .returned (.bool true) ∧ Below wr.heap.size wr w' ∧ Box w' wr.heap.size #[.int .i64 sq, .int .i64 K, .int .i64 V, .int .i64 U, .int .i64 N, .int .i64 FL, .string US, .string NM, .string TX] 79) := fun X hX hB => (hRO X).mono fun e w' ⟨h1, h2⟩ => ⟨h1, hX.trans (h2.mono hX.size), hB.later h2⟩
      clear hRO
      cases hf : f sq with
      | none =>
        have HFS := Lib.hid hf
        clear hf
        go_wp2_with (first | (go_at_call 74; refine (frameNumberOk_yes _ _ hs1 hs2).mono ?_; rintro e w5 ⟨rfl, rfl⟩) | (go_at_call 75; refine (HRO.out _ bR XB).mono ?_; rintro e w6 ⟨rfl, hb6, XB6⟩; have hlk := (HM.out.later hb6).look_gone (t := 108) Try.underlying108 (zero_rec w6) hwf HFS.out true; change (Instr.lookup 108 (.map (some g)) (.int .i64 sq) true).run Try.prog w6 = .ok (.tuple #[Rc.nil.v, .bool false]) w6 at hlk; unfold Rc.nil Rc.v at hlk; obtain ⟨q0, q1, q2, q3, q4, q5, q6, q7, q8, _⟩ := XB6.nine; obtain ⟨p0, p1, p2, p3, p4, p5, p6, p7, p8, _⟩ := (XB6.later (belNew w6 (.cells #[.int .i64 0, .int .i64 0, .int .i64 0, .int .i64 0, .int .i64 0, .string emp, .string emp, .string emp] 77))).nine) | (at_mapUpdate; refine wpList_put rfl _ _ _ _ rfl iK Rc.v rcv_inj _ Try.underlying108 g i f rfl ((HM.out.later hb6).later (belNew _ _)) (by unfold maxLen; omega) sq ⟨K, V, U, N, FL, US, NM, TX⟩ rfl rfl hwf ?_; intro w8 hM8 hg8 hs8))
        go_wp2
        go_roundw
        case rel => exact ⟨i + 1, _, by omega, by go_num, HG.out.next HX.out ⟨⟨hs1, hs2⟩, HO.out⟩ (fun j y hj hji e => absurd e (HF.out.none' HFS.out hj hji)), HF.out.next HX.out (.inl HFS.out), hM8, (hb.trans ((hb6.trans ((belNew w6 _).mono hb6.size)).mono hb.size)).grown hg8 (Nat.le_trans hb.size (Nat.le_trans hb6.size (by simp))) (fun j hj => by cases hj; exact hgle.out)⟩
        case measure => simp [intOf]; omega
      | some r0 =>
        have HFS := Lib.hid hf
        clear hf
        by_cases hr : r0 = ⟨K, V, U, N, FL, US, NM, TX⟩
        · subst hr
          go_wp2_with (first | (go_at_call 74; refine (frameNumberOk_yes _ _ hs1 hs2).mono ?_; rintro e w5 ⟨rfl, rfl⟩) | (go_at_call 75; refine (HRO.out _ bR XB).mono ?_; rintro e w6 ⟨rfl, hb6, XB6⟩; have hlk := (HM.out.later hb6).look_there (t := 108) Try.underlying108 (zero_rec w6) hwf HFS.out true; change (Instr.lookup 108 (.map (some g)) (.int .i64 sq) true).run Try.prog w6 = .ok (.tuple #[Rc.v ⟨K, V, U, N, FL, US, NM, TX⟩, .bool true]) w6 at hlk; unfold Rc.v at hlk; obtain ⟨q0, q1, q2, q3, q4, q5, q6, q7, q8, _⟩ := XB6.nine; obtain ⟨p0, p1, p2, p3, p4, p5, p6, p7, p8, _⟩ := (XB6.later (belNew w6 (.cells #[.int .i64 K, .int .i64 V, .int .i64 U, .int .i64 N, .int .i64 FL, .string US, .string NM, .string TX] 77))).nine) | (at_mapUpdate; refine wpList_put rfl _ _ _ _ rfl iK Rc.v rcv_inj _ Try.underlying108 g i f rfl ((HM.out.later hb6).later (belNew _ _)) (by unfold maxLen; omega) sq ⟨K, V, U, N, FL, US, NM, TX⟩ rfl rfl hwf ?_; intro w8 hM8 hg8 hs8))
          go_wp2
          go_roundw
          case rel =>
            refine ⟨i + 1, _, by omega, by go_num, HG.out.next HX.out ⟨⟨hs1, hs2⟩, HO.out⟩ (fun j y hj hji e => ?_), HF.out.next HX.out (.inr HFS.out), hM8, (hb.trans ((hb6.trans ((belNew w6 _).mono hb6.size)).mono hb.size)).grown hg8 (Nat.le_trans hb.size (Nat.le_trans hb6.size (by simp))) (fun j hj => by cases hj; exact hgle.out)⟩
            obtain ⟨yq, yr⟩ := y
            simp only at e
            subst e
            have : f yq = some yr := (HF.out yq yr).2 (List.mem_of_getElem? (i := j) (by rw [List.getElem?_take, if_pos hji]; exact hj))
            rw [HFS.out] at this
            cases this
            rfl
          case measure => simp [intOf]; omega
        · have hp := rc_part hr
          have HP : Hid (decide (itemsOk l) = false) := by
            obtain ⟨j, hj, ej⟩ := HF.out.at' HFS.out
            exact items_part ej HX.out rfl (fun e => hr (Prod.mk.inj e).2)
          obtain ⟨K0, V0, U0, N0, FL0, US0, NM0, TX0⟩ := r0
          simp only at hp
          clear hr
          rcases hp with h0 | ⟨rfl, h0⟩ | ⟨rfl, rfl, h0⟩ | ⟨rfl, rfl, rfl, h0⟩ | ⟨rfl, rfl, rfl, rfl, h0⟩ | ⟨rfl, rfl, rfl, rfl, rfl, h0⟩ | ⟨rfl, rfl, rfl, rfl, rfl, rfl, h0⟩ | ⟨rfl, rfl, rfl, rfl, rfl, rfl, rfl, h0⟩
          all_goals (
            try have hba : ¬ (_ : List UInt8) = _ := fun e => h0 ((ba_same _ _).1 e)
            go_wp2_with (first | (go_at_call 74; refine (frameNumberOk_yes _ _ hs1 hs2).mono ?_; rintro e w5 ⟨rfl, rfl⟩) | (go_at_call 75; refine (HRO.out _ bR XB).mono ?_; rintro e w6 ⟨rfl, hb6, XB6⟩; have hlk := (HM.out.later hb6).look_there (t := 108) Try.underlying108 (zero_rec w6) hwf HFS.out true; dsimp only [iK, intK, Rc.v, if_true] at hlk; obtain ⟨q0, q1, q2, q3, q4, q5, q6, q7, q8, _⟩ := XB6.nine; have XB7 := fun cs t => (XB6.later (belNew w6 (.cells cs t))).nine))
            go_ret
            exact ⟨by rw [← HD.out, HP.out]; rfl, hb.trans ((hb6.trans ((belNew w6 _).mono hb6.size)).mono hb.size)⟩)
    · go_wp2
      go_ret
      have e : i = l.length := by omega
      subst e
      exact ⟨by rw [← HD.out, HG.out.done, decide_eq_true hlen]; rfl, hb⟩

end Go.Proofs.Ytjfilicddnhniab

/- The closures of wantedByKind. -/
namespace Go.Proofs.Ytjfilicddnhniab
open Go.RowKit

def inN (x : Nat) : Value := .int .i64 (x : Int)
theorem inN_inj (x y : Nat) (h : inN x = inN y) : x = y := by unfold inN at h; simp at h; omega
def boxO (f : Int × Int × Int → Option Nat) (v : Int) : Bool := (f (1, v, 0)).isSome && !(f (2, v, 0)).isSome
def addO (f : Int × Int × Int → Option Nat) (v u : Int) : Bool := boxO f v && (f (3, v, u)).isSome
def mailO (f : Int × Int × Int → Option Nat) (v u : Int) : Bool := addO f v u && !(f (5, v, u)).isSome

/-- What the closures see. -/
structure Wn (w : World) (gM n : Nat) (f : Int × Int × Int → Option Nat) (v : Value) (l : List Itm) (g2 g3 g5 g6 g7 : Nat) : Prop where
  map : MapIs sjK inN w gM n f
  c2 : w.cell? ⟨g2, 0, none⟩ = some v
  c3 : w.cell? ⟨g3, 0, none⟩ = some (.map (some gM))
  c5 : w.cell? ⟨g5, 0, none⟩ = some (.func (.func 77) #[] #[.pointer (some ⟨g3, 0, none⟩)])
  c6 : w.cell? ⟨g6, 0, none⟩ = some (.func (.func 78) #[] #[.pointer (some ⟨g5, 0, none⟩)])
  c7 : w.cell? ⟨g7, 0, none⟩ = some (.func (.func 79) #[] #[.pointer (some ⟨g6, 0, none⟩), .pointer (some ⟨g5, 0, none⟩)])
  rows : Rows' itE w v l
theorem Wn.later {w w' : World} {gM n g2 g3 g5 g6 g7 : Nat} {f : Int × Int × Int → Option Nat} {v : Value} {l : List Itm} (h : Wn w gM n f v l g2 g3 g5 g6 g7) (hb : Below w.heap.size w w') : Wn w' gM n f v l g2 g3 g5 g6 g7 :=
  have k : ∀ {g : Nat} {u : Value}, w.cell? ⟨g, 0, none⟩ = some u → w'.cell? ⟨g, 0, none⟩ = some u := fun {g _} hc => (hb.cell (p := ⟨g, 0, none⟩) (World.block_lt_of_cell? _ _ hc)).trans hc
  ⟨h.map.later hb, k h.c2, k h.c3, k h.c5, k h.c6, k h.c7, h.rows.later hb⟩

theorem zero_intN (w : World) : (zeroValue 3).run Try.prog w = .ok (.int .i64 0) w := by kernel_rfl

theorem sj_ok {k v u : Int} (h1 : 0 ≤ k ∧ k ≤ 9999) (h2 : 0 ≤ v ∧ v ≤ 9999) (h3 : 0 ≤ u ∧ u ≤ 9999) : sjK.ok (k, v, u) := ⟨wf_of (x := k) (by omega) (by omega), wf_of (x := v) (by omega) (by omega), wf_of (x := u) (by omega) (by omega)⟩

set_option maxRecDepth 100000 in
theorem told_any (kk vv uu : Int) (w : World) (gM n g3 : Nat) (f : Int × Int × Int → Option Nat) (hm : MapIs sjK inN w gM n f) (h3 : w.cell? ⟨g3, 0, none⟩ = some (.map (some gM))) (hok : sjK.ok (kk, vv, uu)) :
    Calls Try.prog 77 #[.int .i64 kk, .int .i64 vv, .int .i64 uu, .pointer (some ⟨g3, 0, none⟩)] w fun e w' => e = .returned (.bool (f (kk, vv, uu)).isSome) ∧ w = w' := by
  cases hf : f (kk, vv, uu) with
  | none =>
    have hlk : (Instr.lookup 83 (.map (some gM)) (.agg #[.int .i64 kk, .int .i64 vv, .int .i64 uu]) true).run Try.prog w = .ok (.tuple #[.int .i64 0, .bool false]) w := hm.look_gone (t := 83) Try.underlying83 (zero_intN w) hok hf true
    clear hm hf
    go_enter Try.func77, Try.ntmps77
    go_wp2
    go_ret
    exact ⟨rfl, rfl⟩
  | some c =>
    have hlk : (Instr.lookup 83 (.map (some gM)) (.agg #[.int .i64 kk, .int .i64 vv, .int .i64 uu]) true).run Try.prog w = .ok (.tuple #[.int .i64 (c : Int), .bool true]) w := hm.look_there (t := 83) Try.underlying83 (zero_intN w) hok hf true
    clear hm hf
    go_enter Try.func77, Try.ntmps77
    go_wp2
    go_ret
    exact ⟨rfl, rfl⟩

set_option maxRecDepth 100000 in
set_option maxHeartbeats 1000000 in
theorem boxThere_any (r : Rc) (w : World) {gM n g2 g3 g5 g6 g7 : Nat} {f : Int × Int × Int → Option Nat} {v : Value} {l : List Itm} (h : Wn w gM n f v l g2 g3 g5 g6 g7) (hv : 1 ≤ r.valid ∧ r.valid ≤ 9999) :
    Calls Try.prog 78 #[r.v, .pointer (some ⟨g5, 0, none⟩)] w fun e w' => e = .returned (.bool (boxO f r.valid)) ∧ Below w.heap.size w w' := by
  have b1 := belNew w (.cells r.cs 77)
  have hx := (Box.new w r.cs 77).rec
  have h' := h.later b1
  have T1 := Lib.hid (told_any 1 r.valid 0 _ gM n g3 f h'.map h'.c3 (sj_ok (by omega) (by omega) (by omega)))
  have T2 := Lib.hid (told_any 2 r.valid 0 _ gM n g3 f h'.map h'.c3 (sj_ok (by omega) (by omega) (by omega)))
  have HE : Hid (boxO f r.valid = ((f (1, r.valid, 0)).isSome && !(f (2, r.valid, 0)).isSome)) := by show _ = _; rfl
  have c5 := h'.c5
  generalize (f (1, r.valid, 0)).isSome = A at T1 HE
  generalize (f (2, r.valid, 0)).isSome = B at T2 HE
  obtain ⟨_, x1, _⟩ := hx
  obtain ⟨K, V, U, N, FL, US, NM, TX⟩ := r
  unfold Rc.v
  unfold Rc.cs at *
  simp only at *
  clear h h'
  cases A with
  | false =>
    go_enter Try.func78, Try.ntmps78
    go_wp2_with (go_at_call 77; refine T1.out.mono ?_; rintro e w1 ⟨rfl, rfl⟩)
    go_ret
    exact ⟨by rw [HE.out]; rfl, b1⟩
  | true =>
    go_enter Try.func78, Try.ntmps78
    go_wp2_with (first | (go_at_call 77; with_reducible refine T1.out.mono ?_; rintro e w1 ⟨rfl, rfl⟩) | (go_at_call 77; with_reducible refine T2.out.mono ?_; rintro e w1 ⟨rfl, rfl⟩))
    go_ret
    exact ⟨by rw [HE.out]; first | rfl | (cases B <;> rfl), b1⟩

set_option maxRecDepth 100000 in
set_option maxHeartbeats 1000000 in
theorem addedThere_any (r : Rc) (w : World) {gM n g2 g3 g5 g6 g7 : Nat} {f : Int × Int × Int → Option Nat} {v : Value} {l : List Itm} (h : Wn w gM n f v l g2 g3 g5 g6 g7) (hv : 1 ≤ r.valid ∧ r.valid ≤ 9999) (hu : 0 ≤ r.uid ∧ r.uid ≤ 9999) :
    Calls Try.prog 79 #[r.v, .pointer (some ⟨g6, 0, none⟩), .pointer (some ⟨g5, 0, none⟩)] w fun e w' => e = .returned (.bool (addO f r.valid r.uid)) ∧ Below w.heap.size w w' := by
  have b1 := belNew w (.cells r.cs 77)
  have hx := Box.new w r.cs 77
  have h' := h.later b1
  have T1 := Lib.hid (boxThere_any r _ h' hv)
  have T2 := Lib.hid (fun x (hx : Below (w.alloc (.cells r.cs 77)).heap.size (w.alloc (.cells r.cs 77)) x) => told_any 3 r.valid r.uid x gM n g3 f (h'.later hx).map (h'.later hx).c3 (sj_ok (by omega) (by omega) (by omega)))
  have HC : Hid (∀ x, Below (w.alloc (.cells r.cs 77)).heap.size (w.alloc (.cells r.cs 77)) x → x.cell? ⟨g5, 0, none⟩ = some (.func (.func 77) #[] #[.pointer (some ⟨g3, 0, none⟩)]) ∧ x.cell? ⟨w.heap.size, 1, none⟩ = some (.int .i64 r.valid) ∧ x.cell? ⟨w.heap.size, 2, none⟩ = some (.int .i64 r.uid)) := fun x hx2 => ⟨(h'.later hx2).c5, (hx.later hx2).rec.2.1, (hx.later hx2).rec.2.2.1⟩
  have HE : Hid (addO f r.valid r.uid = (boxO f r.valid && (f (3, r.valid, r.uid)).isSome)) := by show _ = _; rfl
  have cC := h'.c6
  have c5 := h'.c5
  generalize boxO f r.valid = A at T1 HE
  generalize (f (3, r.valid, r.uid)).isSome = B at T2 HE
  obtain ⟨x0, x1, x2, x3, x4, x5, x6, x7⟩ := hx.rec
  obtain ⟨K, V, U, N, FL, US, NM, TX⟩ := r
  unfold Rc.v at T1 ⊢
  unfold Rc.cs at *
  simp only at *
  clear h h' hx
  cases A with
  | false =>
    go_enter Try.func79, Try.ntmps79
    go_wp2_with (go_at_call 78; refine T1.out.mono ?_; rintro e w1 ⟨rfl, k1⟩)
    go_ret
    exact ⟨by rw [HE.out]; rfl, b1.trans (k1.mono b1.size)⟩
  | true =>
    go_enter Try.func79, Try.ntmps79
    go_wp2_with (first | (go_at_call 78; refine T1.out.mono ?_; rintro e w1 ⟨rfl, k1⟩; obtain ⟨d5, d1, d2⟩ := HC.out _ k1) | (go_at_call 77; refine (T2.out _ k1).mono ?_; rintro e w2 ⟨rfl, rfl⟩))
    go_ret
    exact ⟨by rw [HE.out]; first | rfl | (cases B <;> rfl), b1.trans (k1.mono b1.size)⟩

set_option maxRecDepth 100000 in
set_option maxHeartbeats 1000000 in
theorem mailThere_any (r : Rc) (w : World) {gM n g2 g3 g5 g6 g7 : Nat} {f : Int × Int × Int → Option Nat} {v : Value} {l : List Itm} (h : Wn w gM n f v l g2 g3 g5 g6 g7) (hv : 1 ≤ r.valid ∧ r.valid ≤ 9999) (hu : 0 ≤ r.uid ∧ r.uid ≤ 9999) :
    Calls Try.prog 80 #[r.v, .pointer (some ⟨g7, 0, none⟩), .pointer (some ⟨g5, 0, none⟩)] w fun e w' => e = .returned (.bool (mailO f r.valid r.uid)) ∧ Below w.heap.size w w' := by
  have b1 := belNew w (.cells r.cs 77)
  have hx := Box.new w r.cs 77
  have h' := h.later b1
  have T1 := Lib.hid (addedThere_any r _ h' hv hu)
  have T2 := Lib.hid (fun x (hx : Below (w.alloc (.cells r.cs 77)).heap.size (w.alloc (.cells r.cs 77)) x) => told_any 5 r.valid r.uid x gM n g3 f (h'.later hx).map (h'.later hx).c3 (sj_ok (by omega) (by omega) (by omega)))
  have HC : Hid (∀ x, Below (w.alloc (.cells r.cs 77)).heap.size (w.alloc (.cells r.cs 77)) x → x.cell? ⟨g5, 0, none⟩ = some (.func (.func 77) #[] #[.pointer (some ⟨g3, 0, none⟩)]) ∧ x.cell? ⟨w.heap.size, 1, none⟩ = some (.int .i64 r.valid) ∧ x.cell? ⟨w.heap.size, 2, none⟩ = some (.int .i64 r.uid)) := fun x hx2 => ⟨(h'.later hx2).c5, (hx.later hx2).rec.2.1, (hx.later hx2).rec.2.2.1⟩
  have HE : Hid (mailO f r.valid r.uid = (addO f r.valid r.uid && !(f (5, r.valid, r.uid)).isSome)) := by show _ = _; rfl
  have cC := h'.c7
  have c5 := h'.c5
  generalize addO f r.valid r.uid = A at T1 HE
  generalize (f (5, r.valid, r.uid)).isSome = B at T2 HE
  obtain ⟨x0, x1, x2, x3, x4, x5, x6, x7⟩ := hx.rec
  obtain ⟨K, V, U, N, FL, US, NM, TX⟩ := r
  unfold Rc.v at T1 ⊢
  unfold Rc.cs at *
  simp only at *
  clear h h' hx
  cases A with
  | false =>
    go_enter Try.func80, Try.ntmps80
    go_wp2_with (go_at_call 79; refine T1.out.mono ?_; rintro e w1 ⟨rfl, k1⟩)
    go_ret
    exact ⟨by rw [HE.out]; rfl, b1.trans (k1.mono b1.size)⟩
  | true =>
    go_enter Try.func80, Try.ntmps80
    go_wp2_with (first | (go_at_call 79; refine T1.out.mono ?_; rintro e w1 ⟨rfl, k1⟩; obtain ⟨d5, d1, d2⟩ := HC.out _ k1) | (go_at_call 77; refine (T2.out _ k1).mono ?_; rintro e w2 ⟨rfl, rfl⟩))
    go_ret
    exact ⟨by rw [HE.out]; first | rfl | (cases B <;> rfl), b1.trans (k1.mono b1.size)⟩

def othB (rK rV : Int) (y : Itm) : Bool := decide (y.2.valid = rV ∧ y.2.kind ≠ rK)
set_option maxRecDepth 100000 in
set_option maxHeartbeats 1000000 in
theorem oth_any (x : Itm) (rK rV : Int) (gr : Nat) (w : World) (h0 : w.cell? ⟨gr, 0, none⟩ = some (.int .i64 rK)) (h1 : w.cell? ⟨gr, 1, none⟩ = some (.int .i64 rV)) :
    Calls Try.prog 83 #[itV x.1 x.2, .pointer (some ⟨gr, 0, none⟩)] w fun e w' => e = .returned (.bool (othB rK rV x)) ∧ Below w.heap.size w w' := by
  obtain ⟨sq, K, V, U, N, FL, US, NM, TX⟩ := x
  have HE : Hid (othB rK rV (sq, ⟨K, V, U, N, FL, US, NM, TX⟩) = decide (V = rV ∧ K ≠ rK)) := by show _ = _; rfl
  generalize othB rK rV (sq, ⟨K, V, U, N, FL, US, NM, TX⟩) = D at HE ⊢
  unfold itV
  simp only
  have b1 := belNew w (.cells #[.int .i64 sq, .int .i64 K, .int .i64 V, .int .i64 U, .int .i64 N, .int .i64 FL, .string US, .string NM, .string TX] 79)
  have l0 := World.block_lt_of_cell? _ _ h0
  have d0 := (b1.cell (p := ⟨gr, 0, none⟩) l0).trans h0
  have d1 := (b1.cell (p := ⟨gr, 1, none⟩) l0).trans h1
  clear h0 h1 l0
  by_cases hv : V = rV
  · subst hv
    by_cases hk : K = rK
    · subst hk
      have HD : Hid (D = false) := by rw [HE.out]; exact decide_eq_false (fun c => c.2 rfl)
      clear HE
      go_enter Try.func83, Try.ntmps83
      go_wp2
      go_ret
      exact ⟨by rw [HD.out]; rfl, b1⟩
    · have hk' : (K == rK) = false := beq_eq_false_iff_ne.2 hk
      have hk2 : (K != rK) = true := bne_iff_ne.2 hk
      have HD : Hid (D = true) := by rw [HE.out]; exact decide_eq_true ⟨rfl, hk⟩
      clear HE
      go_enter Try.func83, Try.ntmps83
      go_wp2
      go_ret
      exact ⟨by rw [HD.out]; first | rfl | simp [hk'], b1⟩
  · have hv' : (V == rV) = false := beq_eq_false_iff_ne.2 hv
    have HD : Hid (D = false) := by rw [HE.out]; exact decide_eq_false (fun c => hv c.1)
    clear HE
    go_enter Try.func83, Try.ntmps83
    go_wp2
    go_ret
    exact ⟨by rw [HD.out]; rfl, b1⟩

set_option maxRecDepth 100000 in
set_option maxHeartbeats 2000000 in
theorem indexFunc_any (l : List Itm) (v : Value) (rK rV : Int) (gr : Nat) (w : World) (h : Rows' itE w v l) (hl : l.length ≤ 1048576) (h0 : w.cell? ⟨gr, 0, none⟩ = some (.int .i64 rK)) (h1 : w.cell? ⟨gr, 1, none⟩ = some (.int .i64 rV)) :
    Calls Try.prog 101 #[v, .func (.func 83) #[] #[.pointer (some ⟨gr, 0, none⟩)]] w fun e w' => (∃ r : Int, e = .returned (.int .i64 r) ∧ ((0 ≤ r ∧ l.any (othB rK rV) = true) ∨ (¬ 0 ≤ r ∧ l.any (othB rK rV) = false))) ∧ Below w.heap.size w w' := by
  obtain ⟨ad, cap, rfl, hrow⟩ := h.items
  have HR := Lib.hid hrow
  clear h hrow
  obtain ⟨n, hn⟩ : ∃ n, l.length = n := ⟨_, rfl⟩
  rw [hn] at hl ⊢
  have HN := Lib.hid hn
  clear hn
  have l0 := World.block_lt_of_cell? _ _ h0
  have HO : Hid (∀ (y : Itm) x, Below w.heap.size w x → Calls Try.prog 83 #[itV y.1 y.2, .pointer (some ⟨gr, 0, none⟩)] x fun e w' => e = .returned (.bool (othB rK rV y)) ∧ Below x.heap.size x w') := fun y x hx => oth_any y rK rV gr x ((hx.cell (p := ⟨gr, 0, none⟩) l0).trans h0) ((hx.cell (p := ⟨gr, 1, none⟩) l0).trans h1)
  clear h0 h1 l0
  obtain ⟨Q, hQ⟩ : ∃ Q, l.any (othB rK rV) = Q := ⟨_, rfl⟩
  rw [hQ]
  have HQ := Lib.hid hQ
  clear hQ
  have F0 : Hid (∀ y ∈ l.take 0, othB rK rV y = false) := fun y hy => by simp at hy
  go_enter Try.func101, Try.ntmps101
  go_wp2
  go_loopw [8] (fun iv wr => ∃ i : Nat, i ≤ n ∧ iv = .int .i64 (i : Int) ∧ (∀ y ∈ l.take i, othB rK rV y = false) ∧ Below w.heap.size w wr) (fun iv _ => n - (intOf iv).toNat)
  case atStart => exact ⟨0, by omega, rfl, F0.out, Below.refl _ _⟩
  case round =>
    clear F0
    obtain ⟨i, hi, rfl, hno, bq⟩ := hrel
    by_cases hlt : i < n
    · obtain ⟨y, hgy⟩ : ∃ y, l[i]? = some y := ⟨_, List.getElem?_eq_getElem (by rw [HN.out]; omega)⟩
      obtain ⟨gp, op, rfl, p0, p1, p2, p3, p4, p5, p6, p7, p8⟩ := HR.out _ bq i y hgy
      have HOY := Lib.hid (HO.out y _ bq)
      have HNX : Hid (othB rK rV y = false → ∀ z ∈ l.take (i + 1), othB rK rV z = false) := fun hy z hz => by
        rw [List.take_add_one, hgy] at hz
        rcases List.mem_append.1 hz with h | h
        · exact hno z h
        · simp at h; rw [h]; exact hy
      have HFA : Hid (othB rK rV y = true → Q = true) := fun hy => by rw [← HQ.out]; exact List.any_eq_true.2 ⟨y, List.mem_of_getElem? hgy, hy⟩
      clear hgy hno
      generalize othB rK rV y = D at HOY HNX HFA
      obtain ⟨sq, K, V, U, N, FL, US, NM, TX⟩ := y
      unfold itV at HOY
      simp only at p0 p1 p2 p3 p4 p5 p6 p7 p8 HOY
      have hi0 : (0 : Int) ≤ (i : Int) := by omega
      have hi1 : (i : Int) < (n : Int) := by omega
      cases D with
      | true =>
        have HF := Lib.hid (HFA.out rfl)
        clear HFA HNX
        go_wp2_with (go_at_call 83; refine HOY.out.mono ?_; rintro e w1 ⟨rfl, k1⟩)
        go_ret
        exact ⟨⟨(i : Int), rfl, .inl ⟨hi0, HF.out⟩⟩, bq.trans (k1.mono bq.size)⟩
      | false =>
        have HN2 := Lib.hid (HNX.out rfl)
        clear HFA HNX
        go_wp2_with (go_at_call 83; refine HOY.out.mono ?_; rintro e w1 ⟨rfl, k1⟩)
        exact ⟨⟨i + 1, by omega, by simp, HN2.out, bq.trans (k1.mono bq.size)⟩, by first | omega | (simp [intOf]; omega)⟩
    · have HF : Hid (Q = false) := by
        rw [← HQ.out]
        show _ = false
        rw [List.any_eq_false]
        intro y hy
        rw [hno y (by rw [List.take_of_length_le (by rw [HN.out]; omega)]; exact hy)]
        exact Bool.false_ne_true
      clear hno
      go_wp2
      go_ret
      exact ⟨⟨-1, rfl, .inr ⟨by omega, HF.out⟩⟩, bq⟩

set_option maxRecDepth 100000 in
theorem containsFunc_any (l : List Itm) (v : Value) (rK rV : Int) (gr : Nat) (w : World) (h : Rows' itE w v l) (hl : l.length ≤ 1048576) (h0 : w.cell? ⟨gr, 0, none⟩ = some (.int .i64 rK)) (h1 : w.cell? ⟨gr, 1, none⟩ = some (.int .i64 rV)) :
    Calls Try.prog 82 #[v, .func (.func 83) #[] #[.pointer (some ⟨gr, 0, none⟩)]] w fun e w' => e = .returned (.bool (l.any (othB rK rV))) ∧ Below w.heap.size w w' := by
  have HI := Lib.hid (indexFunc_any l v rK rV gr w h hl h0 h1)
  obtain ⟨ad, cap, rfl, _⟩ := h.items
  clear h h0 h1
  go_enter Try.func82, Try.ntmps82
  go_wp2_with fail
  refine HI.out.mono ?_
  rintro e w1 ⟨⟨r, rfl, hr⟩, k1⟩
  clear HI
  rcases hr with ⟨hr, he⟩ | ⟨hr, he⟩
  · have HE := Lib.hid he
    clear he
    go_wp2
    go_ret
    exact ⟨by rw [HE.out]; first | rfl | simp [hr], k1⟩
  · have HE := Lib.hid he
    clear he
    go_wp2
    go_ret
    exact ⟨by rw [HE.out]; first | rfl | simp [hr], k1⟩

set_option maxRecDepth 100000 in
set_option maxHeartbeats 1000000 in
theorem othersThere_any (r : Rc) (w : World) {gM n g2 g3 g5 g6 g7 : Nat} {f : Int × Int × Int → Option Nat} {v : Value} {l : List Itm} (h : Wn w gM n f v l g2 g3 g5 g6 g7) (hl : l.length ≤ 1048576) :
    Calls Try.prog 81 #[r.v, .pointer (some ⟨g2, 0, none⟩)] w fun e w' => e = .returned (.bool (l.any (othB r.kind r.valid))) ∧ Below w.heap.size w w' := by
  have b1 := belNew w (.cells r.cs 77)
  have hx := (Box.new w r.cs 77).rec
  have h' := h.later b1
  have HCF := Lib.hid (containsFunc_any l v r.kind r.valid w.heap.size _ h'.rows hl hx.1 hx.2.1)
  have c2 := h'.c2
  obtain ⟨ad, cap, rfl, _⟩ := h.rows.items
  have hmf : ∀ (fn : Fn) (first cap : Array Value) (w : World), (Instr.makeFunc fn first cap).run Try.prog w = .ok (.func fn first cap) w := fun _ _ _ _ => rfl
  generalize l.any (othB r.kind r.valid) = D at HCF
  obtain ⟨K, V, U, N, FL, US, NM, TX⟩ := r
  unfold Rc.v
  unfold Rc.cs at *
  simp only at *
  clear h h' hx
  go_enter Try.func81, Try.ntmps81
  go_wp2_with (go_at_call 82; refine HCF.out.mono ?_; rintro e w1 ⟨rfl, k1⟩)
  go_ret
  exact ⟨rfl, b1.trans (k1.mono b1.size)⟩

end Go.Proofs.Ytjfilicddnhniab

/- The library's sort and compare at the numbers of this program. -/
namespace Go.Proofs
open Go.Shelf
def Try.sortBox_ren : Go.Shelf.Ren := ⟨fun | 6 => 92 | 15 => 106 | 14 => 105 | 28 => 122 | 29 => 123 | 20 => 114 | 21 => 115 | 22 => 116 | 23 => 117 | 24 => 118 | 25 => 119 | 26 => 120 | 27 => 121 | 46 => 125 | 47 => 126 | 48 => 127 | 49 => 128 | 50 => 129 | 57 => 138 | n => n, fun | 22 => 27 | 24 => 57 | 25 => 128 | 3 => 3 | 39 => 145 | 0 => 0 | 53 => 172 | 55 => 174 | 4 => 4 | 46 => 166 | 45 => 165 | 50 => 69 | 5 => 5 | 9 => 9 | 66 => 176 | 70 => 180 | 76 => 187 | 77 => 188 | n => n, fun | n => n⟩
theorem Try.sortBox : Go.Proofs.SlLaysF0.n6 Try.prog Try.sortBox_ren := {
  mixed := by kernel_rfl
  f6 := ⟨Try.f92.name, by decide, Try.func92.trans (congrArg some (by kernel_rfl))⟩
  f14 := ⟨Try.f105.name, by decide, Try.func105.trans (congrArg some (by kernel_rfl))⟩
  f15 := Try.func106.trans (congrArg some (by kernel_rfl))
  f20 := ⟨Try.f114.name, by decide, Try.func114.trans (congrArg some (by kernel_rfl))⟩
  f21 := ⟨Try.f115.name, by decide, Try.func115.trans (congrArg some (by kernel_rfl))⟩
  f22 := ⟨Try.f116.name, by decide, Try.func116.trans (congrArg some (by kernel_rfl))⟩
  f23 := ⟨Try.f117.name, by decide, Try.func117.trans (congrArg some (by kernel_rfl))⟩
  f24 := ⟨Try.f118.name, by decide, Try.func118.trans (congrArg some (by kernel_rfl))⟩
  f25 := ⟨Try.f119.name, by decide, Try.func119.trans (congrArg some (by kernel_rfl))⟩
  f26 := ⟨Try.f120.name, by decide, Try.func120.trans (congrArg some (by kernel_rfl))⟩
  f27 := ⟨Try.f121.name, by decide, Try.func121.trans (congrArg some (by kernel_rfl))⟩
  f28 := Try.func122.trans (congrArg some (by kernel_rfl))
  f29 := Try.func123.trans (congrArg some (by kernel_rfl))
  f46 := ⟨Try.f125.name, by decide, Try.func125.trans (congrArg some (by kernel_rfl))⟩
  f47 := Try.func126.trans (congrArg some (by kernel_rfl))
  f48 := Try.func127.trans (congrArg some (by kernel_rfl))
  f49 := ⟨Try.f128.name, by decide, Try.func128.trans (congrArg some (by kernel_rfl))⟩
  f50 := ⟨Try.f129.name, by decide, Try.func129.trans (congrArg some (by kernel_rfl))⟩
  f57 := ⟨Try.f138.name, by decide, Try.func138.trans (congrArg some (by kernel_rfl))⟩
  t0 := Try.underlying0
  a0 := Try.isAgg0
  z0 := Try.sizeOf0
  v0 := Try.zeroValue0
  t3 := Try.underlying3
  a3 := Try.isAgg3
  z3 := Try.sizeOf3
  v3 := Try.zeroValue3
  t4 := Try.underlying4
  a4 := Try.isAgg4
  z4 := Try.sizeOf4
  v4 := Try.zeroValue4
  t5 := Try.underlying5
  a5 := Try.isAgg5
  z5 := Try.sizeOf5
  v5 := Try.zeroValue5
  t9 := Try.underlying9
  a9 := Try.isAgg9
  z9 := Try.sizeOf9
  v9 := Try.zeroValue9
  t22 := Try.underlying27
  a22 := Try.isAgg27
  z22 := Try.sizeOf27
  v22 := Try.zeroValue27
  t25 := Try.underlying128
  a25 := Try.isAgg128
  z25 := Try.sizeOf128
  v25 := Try.zeroValue128
  t39 := Try.underlying145
  a39 := Try.isAgg145
  z39 := Try.sizeOf145
  v39 := Try.zeroValue145
  t45 := Try.underlying165
  a45 := Try.isAgg165
  z45 := Try.sizeOf165
  v45 := Try.zeroValue165
  t46 := Try.underlying166
  a46 := Try.isAgg166
  z46 := Try.sizeOf166
  v46 := Try.zeroValue166
  t50 := Try.underlying69
  a50 := Try.isAgg69
  z50 := Try.sizeOf69
  v50 := Try.zeroValue69
  t53 := Try.underlying172
  a53 := Try.isAgg172
  z53 := Try.sizeOf172
  v53 := Try.zeroValue172
  t55 := Try.underlying174
  a55 := Try.isAgg174
  z55 := Try.sizeOf174
  v55 := Try.zeroValue174
  t66 := Try.underlying176
  a66 := Try.isAgg176
  z66 := Try.sizeOf176
  v66 := Try.zeroValue176
  t70 := Try.underlying180
  a70 := Try.isAgg180
  z70 := Try.sizeOf180
  v70 := Try.zeroValue180
  t76 := Try.underlying187
  a76 := Try.isAgg187
  z76 := Try.sizeOf187
  v76 := Try.zeroValue187
  t77 := Try.underlying188
  a77 := Try.isAgg188
  z77 := Try.sizeOf188
  v77 := Try.zeroValue188 }
def Try.sortMail_ren : Go.Shelf.Ren := ⟨fun | 6 => 112 | 15 => 106 | 14 => 124 | 28 => 122 | 29 => 123 | 20 => 130 | 21 => 131 | 22 => 132 | 23 => 133 | 24 => 134 | 25 => 135 | 26 => 136 | 27 => 137 | 46 => 139 | 47 => 126 | 48 => 127 | 49 => 140 | 50 => 141 | 57 => 142 | n => n, fun | 22 => 55 | 24 => 59 | 25 => 163 | 3 => 3 | 39 => 145 | 0 => 0 | 53 => 172 | 55 => 174 | 4 => 4 | 46 => 166 | 45 => 165 | 50 => 69 | 5 => 5 | 9 => 9 | 66 => 176 | 70 => 180 | 76 => 187 | 77 => 188 | n => n, fun | n => n⟩
theorem Try.sortMail : Go.Proofs.SlLaysF0.n6 Try.prog Try.sortMail_ren := {
  mixed := by kernel_rfl
  f6 := ⟨Try.f112.name, by decide, Try.func112.trans (congrArg some (by kernel_rfl))⟩
  f14 := ⟨Try.f124.name, by decide, Try.func124.trans (congrArg some (by kernel_rfl))⟩
  f15 := Try.func106.trans (congrArg some (by kernel_rfl))
  f20 := ⟨Try.f130.name, by decide, Try.func130.trans (congrArg some (by kernel_rfl))⟩
  f21 := ⟨Try.f131.name, by decide, Try.func131.trans (congrArg some (by kernel_rfl))⟩
  f22 := ⟨Try.f132.name, by decide, Try.func132.trans (congrArg some (by kernel_rfl))⟩
  f23 := ⟨Try.f133.name, by decide, Try.func133.trans (congrArg some (by kernel_rfl))⟩
  f24 := ⟨Try.f134.name, by decide, Try.func134.trans (congrArg some (by kernel_rfl))⟩
  f25 := ⟨Try.f135.name, by decide, Try.func135.trans (congrArg some (by kernel_rfl))⟩
  f26 := ⟨Try.f136.name, by decide, Try.func136.trans (congrArg some (by kernel_rfl))⟩
  f27 := ⟨Try.f137.name, by decide, Try.func137.trans (congrArg some (by kernel_rfl))⟩
  f28 := Try.func122.trans (congrArg some (by kernel_rfl))
  f29 := Try.func123.trans (congrArg some (by kernel_rfl))
  f46 := ⟨Try.f139.name, by decide, Try.func139.trans (congrArg some (by kernel_rfl))⟩
  f47 := Try.func126.trans (congrArg some (by kernel_rfl))
  f48 := Try.func127.trans (congrArg some (by kernel_rfl))
  f49 := ⟨Try.f140.name, by decide, Try.func140.trans (congrArg some (by kernel_rfl))⟩
  f50 := ⟨Try.f141.name, by decide, Try.func141.trans (congrArg some (by kernel_rfl))⟩
  f57 := ⟨Try.f142.name, by decide, Try.func142.trans (congrArg some (by kernel_rfl))⟩
  t0 := Try.underlying0
  a0 := Try.isAgg0
  z0 := Try.sizeOf0
  v0 := Try.zeroValue0
  t3 := Try.underlying3
  a3 := Try.isAgg3
  z3 := Try.sizeOf3
  v3 := Try.zeroValue3
  t4 := Try.underlying4
  a4 := Try.isAgg4
  z4 := Try.sizeOf4
  v4 := Try.zeroValue4
  t5 := Try.underlying5
  a5 := Try.isAgg5
  z5 := Try.sizeOf5
  v5 := Try.zeroValue5
  t9 := Try.underlying9
  a9 := Try.isAgg9
  z9 := Try.sizeOf9
  v9 := Try.zeroValue9
  t22 := Try.underlying55
  a22 := Try.isAgg55
  z22 := Try.sizeOf55
  v22 := Try.zeroValue55
  t25 := Try.underlying163
  a25 := Try.isAgg163
  z25 := Try.sizeOf163
  v25 := Try.zeroValue163
  t39 := Try.underlying145
  a39 := Try.isAgg145
  z39 := Try.sizeOf145
  v39 := Try.zeroValue145
  t45 := Try.underlying165
  a45 := Try.isAgg165
  z45 := Try.sizeOf165
  v45 := Try.zeroValue165
  t46 := Try.underlying166
  a46 := Try.isAgg166
  z46 := Try.sizeOf166
  v46 := Try.zeroValue166
  t50 := Try.underlying69
  a50 := Try.isAgg69
  z50 := Try.sizeOf69
  v50 := Try.zeroValue69
  t53 := Try.underlying172
  a53 := Try.isAgg172
  z53 := Try.sizeOf172
  v53 := Try.zeroValue172
  t55 := Try.underlying174
  a55 := Try.isAgg174
  z55 := Try.sizeOf174
  v55 := Try.zeroValue174
  t66 := Try.underlying176
  a66 := Try.isAgg176
  z66 := Try.sizeOf176
  v66 := Try.zeroValue176
  t70 := Try.underlying180
  a70 := Try.isAgg180
  z70 := Try.sizeOf180
  v70 := Try.zeroValue180
  t76 := Try.underlying187
  a76 := Try.isAgg187
  z76 := Try.sizeOf187
  v76 := Try.zeroValue187
  t77 := Try.underlying188
  a77 := Try.isAgg188
  z77 := Try.sizeOf188
  v77 := Try.zeroValue188 }
def Try.cmpInt_ren : Go.Shelf.Ren := ⟨fun | 5 => 100 | 7 => 110 | n => n, fun | 22 => 3 | 3 => 3 | 4 => 4 | n => n, fun | n => n⟩
theorem Try.cmpInt : Go.Proofs.SlLaysC2.n5 Try.prog Try.cmpInt_ren := {
  mixed := by kernel_rfl
  f5 := ⟨Try.f100.name, by decide, Try.func100.trans (congrArg some (by kernel_rfl))⟩
  f7 := ⟨Try.f110.name, by decide, Try.func110.trans (congrArg some (by kernel_rfl))⟩
  t3 := Try.underlying3
  a3 := Try.isAgg3
  z3 := Try.sizeOf3
  v3 := Try.zeroValue3
  t4 := Try.underlying4
  a4 := Try.isAgg4
  z4 := Try.sizeOf4
  v4 := Try.zeroValue4
  t22 := Try.underlying3
  a22 := Try.isAgg3
  z22 := Try.sizeOf3
  v22 := Try.zeroValue3 }
end Go.Proofs

/- How the records of a box are gathered in memory; the latest of a mail. -/
namespace Go.Proofs.Ytjfilicddnhniab
open Go.RowKit

/-- An item's value. -/
def itmV (x : Itm) : Value := itV x.1 x.2
theorem itmV_inj (x y : Itm) (h : itmV x = itmV y) : x = y := by
  obtain ⟨s, a0, a1, a2, a3, a4, a5, a6, a7⟩ := x
  obtain ⟨s', b0, b1, b2, b3, b4, b5, b6, b7⟩ := y
  simp only [itmV, itV] at h
  injection h with h
  simp only [Array.mk.injEq, List.cons.injEq, Value.int.injEq, Value.string.injEq, true_and, and_true] at h
  obtain ⟨rfl, rfl, rfl, rfl, rfl, rfl, rfl, rfl, rfl⟩ := h
  rfl
/-- A pointer to a block. -/
def ptrV (g : Nat) : Value := .pointer (some ⟨g, 0, none⟩)
theorem ptrV_inj (x y : Nat) (h : ptrV x = ptrV y) : x = y := by
  unfold ptrV at h
  injection h with h
  injection h with h
  injection h

/-- The cells of what is gathered of a box: its maps stand in the blocks a and a + 1. -/
def tbC (a : Nat) (t : Tb) : Array Value := #[.int .i64 t.named.1, .int .i64 t.named.2.kind, .int .i64 t.named.2.valid, .int .i64 t.named.2.uid, .int .i64 t.named.2.next, .int .i64 t.named.2.flags, .string t.named.2.user, .string t.named.2.name, .string t.named.2.text, .int .i64 t.next, .map (some a), .map (some (a + 1))]
/-- What is gathered of a box lies in the blocks a, a + 1 and a + 2. -/
structure TbAt (w : World) (a n : Nat) (t : Tb) : Prop where
  box : Box w (a + 2) (tbC a t) 125
  adds : MapIs iK itmV w a n t.adds
  flags : MapIs iK itmV w (a + 1) n t.flags
theorem TbAt.later {w w' : World} {a n : Nat} {t : Tb} (h : TbAt w a n t) (hb : Below w.heap.size w w') : TbAt w' a n t := ⟨h.box.later hb, h.adds.later hb, h.flags.later hb⟩
theorem TbAt.kept {w w' : World} {a n : Nat} {t : Tb} {r : Option Nat} (h : TbAt w a n t) (hg : w.grownBy w' r) (h0 : some a ≠ r) (h1 : some (a + 1) ≠ r) (h2 : some (a + 2) ≠ r) : TbAt w' a n t :=
  ⟨(hg.block _ h.box.lt h2).trans h.box, h.adds.kept hg h0, h.flags.kept hg h1⟩
theorem TbAt.mono {w : World} {a n n' : Nat} {t : Tb} (h : TbAt w a n t) (hn : n ≤ n') : TbAt w a n' t := ⟨h.box, h.adds.mono hn, h.flags.mono hn⟩
theorem TbAt.same {w w' : World} {a n : Nat} {t : Tb} (h : TbAt w a n t) (e0 : w'.heap[a]? = w.heap[a]?) (e1 : w'.heap[a + 1]? = w.heap[a + 1]?) (e2 : w'.heap[a + 2]? = w.heap[a + 2]?) : TbAt w' a n t :=
  ⟨e2.trans h.box, h.adds.same e0, h.flags.same e1⟩

set_option maxRecDepth 100000 in
theorem zero_item (w : World) : (zeroValue 79).run Try.prog w = .ok (itmV (0, Rc.nil)) w := by kernel_rfl

set_option maxRecDepth 100000 in
set_option maxHeartbeats 2000000 in
/-- The latest of a mail is kept: nothing but that map has turned. -/
theorem keepLatest_any (f : Int → Option Itm) (x : Itm) (g n : Nat) (w : World) (h : MapIs iK itmV w g n f) (hn : n ≤ 1000000) (hu : iK.ok x.2.uid) :
    Calls Try.prog 111 #[.map (some g), itmV x] w fun e w' => e = .returned (.tuple #[]) ∧ MapIs iK itmV w' g (n + 1) (keepL f x) ∧ w.grownBy w' (some g) := by
  have gA := World.grownBy_alloc w (.cells #[.int .i64 x.1, .int .i64 x.2.kind, .int .i64 x.2.valid, .int .i64 x.2.uid, .int .i64 x.2.next, .int .i64 x.2.flags, .string x.2.user, .string x.2.name, .string x.2.text] 79) (some g)
  have M1 := h.later (belNew w (.cells #[.int .i64 x.1, .int .i64 x.2.kind, .int .i64 x.2.valid, .int .i64 x.2.uid, .int .i64 x.2.next, .int .i64 x.2.flags, .string x.2.user, .string x.2.name, .string x.2.text] 79))
  have X1 := Box.new w #[.int .i64 x.1, .int .i64 x.2.kind, .int .i64 x.2.valid, .int .i64 x.2.uid, .int .i64 x.2.next, .int .i64 x.2.flags, .string x.2.user, .string x.2.name, .string x.2.text] 79
  obtain ⟨z, hz, hzs⟩ : ∃ z : Itm, (Instr.lookup 123 (.map (some g)) (.int .i64 x.2.uid) false).run Try.prog (w.alloc (.cells #[.int .i64 x.1, .int .i64 x.2.kind, .int .i64 x.2.valid, .int .i64 x.2.uid, .int .i64 x.2.next, .int .i64 x.2.flags, .string x.2.user, .string x.2.name, .string x.2.text] 79)) = .ok (itmV z) (w.alloc (.cells #[.int .i64 x.1, .int .i64 x.2.kind, .int .i64 x.2.valid, .int .i64 x.2.uid, .int .i64 x.2.next, .int .i64 x.2.flags, .string x.2.user, .string x.2.name, .string x.2.text] 79)) ∧ sqO (f x.2.uid) = z.1 := by
    cases hf : f x.2.uid with
    | none => exact ⟨(0, Rc.nil), M1.look_gone (t := 123) Try.underlying123 (zero_item _) hu hf false, rfl⟩
    | some y => exact ⟨y, M1.look_there (t := 123) Try.underlying123 (zero_item _) hu hf false, rfl⟩
  have HZS := Lib.hid hzs
  have HM := Lib.hid M1
  have HU := Lib.hid hu
  have HGA := Lib.hid gA
  clear hzs M1 hu gA h
  obtain ⟨q0, q1, q2, q3, q4, q5, q6, q7, q8, _⟩ := X1.nine
  clear X1
  have hfd : ∀ wx, (Instr.field 79 (itmV z) 0).run Try.prog wx = .ok (.int .i64 z.1) wx := fun _ => by kernel_rfl
  by_cases hlt : z.1 < x.1
  · have HK : Hid (keepL f x = fun u => if u = x.2.uid then some x else f u) := keepL_lt (by rw [HZS.out]; exact hlt)
    obtain ⟨zs, zr⟩ := z
    obtain ⟨sq, K, V, U, N, FL, US, NM, TX⟩ := x
    unfold itmV itV at hz hfd ⊢
    simp only at hz hfd hlt HK HU HM HGA q0 q1 q2 q3 q4 q5 q6 q7 q8 ⊢
    go_enter Try.func111, Try.ntmps111
    go_wp2_with (at_mapUpdate; refine wpList_put rfl _ _ _ _ rfl iK itmV itmV_inj _ Try.underlying123 g n f rfl HM.out (by unfold maxLen; omega) U (sq, ⟨K, V, U, N, FL, US, NM, TX⟩) rfl rfl HU.out ?_; intro w8 hM8 hg8 hs8)
    go_end0
    exact ⟨rfl, by rw [HK.out]; exact hM8, HGA.out.trans hg8⟩
  · have HK : Hid (keepL f x = f) := keepL_ge (by rw [HZS.out]; exact hlt)
    obtain ⟨zs, zr⟩ := z
    obtain ⟨sq, K, V, U, N, FL, US, NM, TX⟩ := x
    unfold itmV itV at hz hfd ⊢
    simp only at hz hfd hlt HK HU HM HGA q0 q1 q2 q3 q4 q5 q6 q7 q8 ⊢
    go_enter Try.func111, Try.ntmps111
    go_wp2
    go_end0
    exact ⟨rfl, by rw [HK.out]; exact HM.out.mono (by omega), HGA.out⟩

theorem compare_any (x y : Int) (w : World) : Calls Try.prog 100 #[.int .i64 x, .int .i64 y] w fun e w' => e = .returned (.int .i64 (Lib.compareInt x y)) ∧ w = w' :=
  (AnyG.cmp_Compare_int Try.cmpInt x y w).mono fun _ _ ⟨h1, h2⟩ => ⟨h1, h2.symm⟩

set_option maxRecDepth 100000 in
set_option maxHeartbeats 1000000 in
/-- The first of two numbers that is not 0. -/
theorem cmpOr_any (x y : Int) (g : Nat) (w : World) (h0 : w.cell? ⟨g, 0, none⟩ = some (.int .i64 x)) (h1 : w.cell? ⟨g, 1, none⟩ = some (.int .i64 y)) :
    Calls Try.prog 99 #[.slice (some ⟨g, 0, none⟩) 2 2] w fun e w' => e = .returned (.int .i64 (if x ≠ 0 then x else y)) ∧ w = w' := by
  obtain ⟨D, hD⟩ : ∃ D, (if x ≠ 0 then x else y) = D := ⟨_, rfl⟩
  have HD := Lib.hid hD
  rw [hD]
  clear hD
  go_enter Try.func99, Try.ntmps99
  go_wp2
  go_loopw [8] (fun iv wr => (iv = .int .i64 0 ∨ (iv = .int .i64 1 ∧ Hid (x = 0)) ∨ (iv = .int .i64 2 ∧ Hid (x = 0) ∧ Hid (y = 0))) ∧ w = wr) (fun iv _ => 2 - (intOf iv).toNat)
  case atStart => exact ⟨.inl rfl, rfl⟩
  case round =>
    obtain ⟨hc, rfl⟩ := hrel
    rcases hc with rfl | ⟨rfl, hx⟩ | ⟨rfl, hx, hy⟩
    · by_cases hx : x = 0
      · have HX := Lib.hid hx
        go_wp2
        exact ⟨⟨.inr (.inl ⟨by first | rfl | go_num, HX⟩), by trivial⟩, by simp [intOf]⟩
      · have HX := Lib.hid hx
        go_wp2
        go_ret
        exact ⟨by rw [← HD.out, if_pos HX.out]; rfl, rfl⟩
    · by_cases hy : y = 0
      · have HY := Lib.hid hy
        go_wp2
        exact ⟨⟨.inr (.inr ⟨by first | rfl | go_num, hx, HY⟩), by trivial⟩, by simp [intOf]⟩
      · go_wp2
        go_ret
        exact ⟨by rw [← HD.out, if_neg (fun c => c hx.out)]; rfl, rfl⟩
    · go_wp2
      go_ret
      exact ⟨by rw [← HD.out, if_neg (fun c => c hx.out), hy.out]; rfl, rfl⟩

end Go.Proofs.Ytjfilicddnhniab

/- The records of a box gathered: one record more. -/
namespace Go.Proofs.Ytjfilicddnhniab
open Go.RowKit

/-- Records held against each other: by Next, then by Seq. -/
def nsC (x y : Itm) : Int := if Lib.compareInt x.2.next y.2.next ≠ 0 then Lib.compareInt x.2.next y.2.next else Lib.compareInt x.1 y.1
theorem nsC_pos (x y : Itm) : 0 < nsC x y ↔ aheadB (fun z => z.2.next) x y = true := by
  unfold nsC aheadB Lib.compareInt
  simp only [decide_eq_true_eq]
  by_cases h1 : x.2.next < y.2.next
  · simp [h1]; omega
  · by_cases h2 : y.2.next < x.2.next
    · simp [h1, h2]
    · have h3 : x.2.next = y.2.next := by omega
      simp only [h3, Int.lt_irrefl, if_false]
      by_cases h4 : x.1 < y.1
      · simp [h4]; omega
      · by_cases h5 : y.1 < x.1
        · simp [h4, h5]
        · simp [h4, h5]

set_option maxRecDepth 100000 in
set_option maxHeartbeats 2000000 in
theorem byNextAndSeq_any (x y : Itm) (w : World) : Calls Try.prog 76 #[itmV x, itmV y] w fun e w' => e = .returned (.int .i64 (nsC x y)) ∧ Below w.heap.size w w' := by
  have X0 := (Box.new w #[.int .i64 x.1, .int .i64 x.2.kind, .int .i64 x.2.valid, .int .i64 x.2.uid, .int .i64 x.2.next, .int .i64 x.2.flags, .string x.2.user, .string x.2.name, .string x.2.text] 79).later (belNew _ (.cells #[.int .i64 y.1, .int .i64 y.2.kind, .int .i64 y.2.valid, .int .i64 y.2.uid, .int .i64 y.2.next, .int .i64 y.2.flags, .string y.2.user, .string y.2.name, .string y.2.text] 79))
  have X1 := Box.new (w.alloc (.cells #[.int .i64 x.1, .int .i64 x.2.kind, .int .i64 x.2.valid, .int .i64 x.2.uid, .int .i64 x.2.next, .int .i64 x.2.flags, .string x.2.user, .string x.2.name, .string x.2.text] 79)) #[.int .i64 y.1, .int .i64 y.2.kind, .int .i64 y.2.valid, .int .i64 y.2.uid, .int .i64 y.2.next, .int .i64 y.2.flags, .string y.2.user, .string y.2.name, .string y.2.text] 79
  rw [show (w.alloc (.cells #[.int .i64 x.1, .int .i64 x.2.kind, .int .i64 x.2.valid, .int .i64 x.2.uid, .int .i64 x.2.next, .int .i64 x.2.flags, .string x.2.user, .string x.2.name, .string x.2.text] 79)).heap.size = w.heap.size + 1 from by simp] at X1
  have b1 : Below w.heap.size w ((w.alloc (.cells #[.int .i64 x.1, .int .i64 x.2.kind, .int .i64 x.2.valid, .int .i64 x.2.uid, .int .i64 x.2.next, .int .i64 x.2.flags, .string x.2.user, .string x.2.name, .string x.2.text] 79)).alloc (.cells #[.int .i64 y.1, .int .i64 y.2.kind, .int .i64 y.2.valid, .int .i64 y.2.uid, .int .i64 y.2.next, .int .i64 y.2.flags, .string y.2.user, .string y.2.name, .string y.2.text] 79)) := ((Below.refl _ _).alloc (Nat.le_refl _) _).alloc (by simp) _
  obtain ⟨D, hD⟩ : ∃ D, nsC x y = D := ⟨_, rfl⟩
  have HD := Lib.hid hD
  rw [hD]
  clear hD
  unfold itmV itV
  go_enter Try.func76, Try.ntmps76
  go_upto_region 1 with fail
  generalize (w.alloc (.cells #[.int .i64 x.1, .int .i64 x.2.kind, .int .i64 x.2.valid, .int .i64 x.2.uid, .int .i64 x.2.next, .int .i64 x.2.flags, .string x.2.user, .string x.2.name, .string x.2.text] 79)).alloc (.cells #[.int .i64 y.1, .int .i64 y.2.kind, .int .i64 y.2.valid, .int .i64 y.2.uid, .int .i64 y.2.next, .int .i64 y.2.flags, .string y.2.user, .string y.2.name, .string y.2.text] 79) = w1 at X0 X1 b1 ⊢
  obtain ⟨g1, hg1⟩ : ∃ g1, w.heap.size + 1 = g1 := ⟨_, rfl⟩
  rw [hg1] at X1 ⊢
  obtain ⟨g0, hg0⟩ : ∃ g0, w.heap.size = g0 := ⟨_, rfl⟩
  rw [hg0] at X0
  have r0 : ∀ X, Below w1.heap.size w1 X → X.cell? ⟨g0, 4, none⟩ = some (.int .i64 x.2.next) := fun X hb => (X0.later hb).cell 4 _ rfl
  have r1 : ∀ X, Below w1.heap.size w1 X → X.cell? ⟨g1, 4, none⟩ = some (.int .i64 y.2.next) := fun X hb => (X1.later hb).cell 4 _ rfl
  have r2 : ∀ X, Below w1.heap.size w1 X → X.cell? ⟨g0, 0, none⟩ = some (.int .i64 x.1) := fun X hb => (X0.later hb).cell 0 _ rfl
  have r3 : ∀ X, Below w1.heap.size w1 X → X.cell? ⟨g1, 0, none⟩ = some (.int .i64 y.1) := fun X hb => (X1.later hb).cell 0 _ rfl
  have HB := Lib.hid b1
  have HG0 := Lib.hid hg0
  have HG1 := Lib.hid hg1
  rw [hg0]
  clear X0 X1 b1 hg0 hg1
  refine wp_region_held_drew (S := fun x => Below w1.heap.size w1 x) (by kernel_rfl) ((Below.refl _ _).drew) (fun hHeld => ?_)
  refine takeL (i := 0) (v := .pointer (some ⟨g0, 1, none⟩)) rfl (by kernel_rfl) (by kernel_rfl) (by kernel_rfl) (fun _ _ _ h => h) (Or.inl ⟨by rfl, ?_⟩) (by assumption) ?_
  · intro x hSx; go_simp
  try simp only [Act.put, List.setIfInBounds_toArray, List.set_cons_zero, List.set_cons_succ]
  refine takeL (i := 1) (v := .pointer (some ⟨g0, 4, none⟩)) rfl (by kernel_rfl) (by kernel_rfl) (by kernel_rfl) (fun _ _ _ h => h) (Or.inl ⟨by rfl, ?_⟩) (by assumption) ?_
  · intro x hSx; go_simp
  try simp only [Act.put, List.setIfInBounds_toArray, List.set_cons_zero, List.set_cons_succ]
  refine takeL (i := 2) (v := .int .i64 x.2.next) rfl (by kernel_rfl) (by kernel_rfl) (by kernel_rfl) (fun _ _ _ h => h) (Or.inl ⟨by rfl, ?_⟩) (by assumption) ?_
  · intro x hSx; have q0 := r0 x hSx; go_simp
  try simp only [Act.put, List.setIfInBounds_toArray, List.set_cons_zero, List.set_cons_succ]
  refine takeL (i := 3) (v := .pointer (some ⟨g1, 1, none⟩)) rfl (by kernel_rfl) (by kernel_rfl) (by kernel_rfl) (fun _ _ _ h => h) (Or.inl ⟨by rfl, ?_⟩) (by assumption) ?_
  · intro x hSx; go_simp
  try simp only [Act.put, List.setIfInBounds_toArray, List.set_cons_zero, List.set_cons_succ]
  refine takeL (i := 4) (v := .pointer (some ⟨g1, 4, none⟩)) rfl (by kernel_rfl) (by kernel_rfl) (by kernel_rfl) (fun _ _ _ h => h) (Or.inl ⟨by rfl, ?_⟩) (by assumption) ?_
  · intro x hSx; go_simp
  try simp only [Act.put, List.setIfInBounds_toArray, List.set_cons_zero, List.set_cons_succ]
  refine takeL (i := 5) (v := .int .i64 y.2.next) rfl (by kernel_rfl) (by kernel_rfl) (by kernel_rfl) (fun _ _ _ h => h) (Or.inl ⟨by rfl, ?_⟩) (by assumption) ?_
  · intro x hSx; have q0 := r1 x hSx; go_simp
  try simp only [Act.put, List.setIfInBounds_toArray, List.set_cons_zero, List.set_cons_succ]
  refine takeL (i := 7) (v := .pointer (some ⟨g0, 0, none⟩)) rfl (by kernel_rfl) (by kernel_rfl) (by kernel_rfl) (fun _ _ _ h => h) (Or.inl ⟨by rfl, ?_⟩) (by assumption) ?_
  · intro x hSx; go_simp
  try simp only [Act.put, List.setIfInBounds_toArray, List.set_cons_zero, List.set_cons_succ]
  refine takeL (i := 8) (v := .int .i64 x.1) rfl (by kernel_rfl) (by kernel_rfl) (by kernel_rfl) (fun _ _ _ h => h) (Or.inl ⟨by rfl, ?_⟩) (by assumption) ?_
  · intro x hSx; have q0 := r2 x hSx; go_simp
  try simp only [Act.put, List.setIfInBounds_toArray, List.set_cons_zero, List.set_cons_succ]
  refine takeL (i := 9) (v := .pointer (some ⟨g1, 0, none⟩)) rfl (by kernel_rfl) (by kernel_rfl) (by kernel_rfl) (fun _ _ _ h => h) (Or.inl ⟨by rfl, ?_⟩) (by assumption) ?_
  · intro x hSx; go_simp
  try simp only [Act.put, List.setIfInBounds_toArray, List.set_cons_zero, List.set_cons_succ]
  refine takeL (i := 10) (v := .int .i64 y.1) rfl (by kernel_rfl) (by kernel_rfl) (by kernel_rfl) (fun _ _ _ h => h) (Or.inl ⟨by rfl, ?_⟩) (by assumption) ?_
  · intro x hSx; have q0 := r3 x hSx; go_simp
  try simp only [Act.put, List.setIfInBounds_toArray, List.set_cons_zero, List.set_cons_succ]
  refine wpAnyH_ready (rs := [6]) (by kernel_rfl) (by simp) ?_
  refine readyOne rfl (fun K' hK => ?_)
  go_simp
  refine (compare_any _ _ _).mono ?_
  rintro e wT ⟨rfl, rfl⟩
  go_wp2_with fail
  refine hK.out _ _ (hHeld) (fun hS2 => ?_)
  clear hK K' hHeld
  have hHeld := hS2
  clear hS2
  try simp only [Act.put, List.setIfInBounds_toArray, List.set_cons_zero, List.set_cons_succ]
  refine wpAnyH_ready (rs := [11]) (by kernel_rfl) (by simp) ?_
  refine readyOne rfl (fun K' hK => ?_)
  go_simp
  refine (compare_any _ _ _).mono ?_
  rintro e wT ⟨rfl, rfl⟩
  go_wp2_with fail
  refine hK.out _ _ (hHeld) (fun hS2 => ?_)
  clear hK K' hHeld
  have hHeld := hS2
  clear hS2
  try simp only [Act.put, List.setIfInBounds_toArray, List.set_cons_zero, List.set_cons_succ]
  refine wpAnyH_ready (rs := [12]) (by kernel_rfl) (by simp) ?_
  refine readyOne rfl (fun K' hK => ?_)
  go_simp
  refine hK.out _ _ (belNew0 w1 _) (fun hS2 => ?_)
  clear hK K' hHeld
  have hHeld := hS2
  clear hS2
  try simp only [Act.put, List.setIfInBounds_toArray, List.set_cons_zero, List.set_cons_succ]
  have XN := Box.new w1 #[.int .i64 (Lib.compareInt x.2.next y.2.next), .int .i64 (Lib.compareInt x.1 y.1)] 3
  have z0 : (w1.alloc (.cells #[.int .i64 (Lib.compareInt x.2.next y.2.next), .int .i64 (Lib.compareInt x.1 y.1)] 3)).drew.cell? ⟨w1.heap.size, 0, none⟩ = some (.int .i64 (Lib.compareInt x.2.next y.2.next)) := XN.cell 0 _ rfl
  have z1 : (w1.alloc (.cells #[.int .i64 (Lib.compareInt x.2.next y.2.next), .int .i64 (Lib.compareInt x.1 y.1)] 3)).drew.cell? ⟨w1.heap.size, 1, none⟩ = some (.int .i64 (Lib.compareInt x.1 y.1)) := XN.cell 1 _ rfl
  have HOR := Lib.hid (cmpOr_any _ _ _ _ z0 z1)
  clear XN z0 z1
  generalize (w1.alloc (.cells #[.int .i64 (Lib.compareInt x.2.next y.2.next), .int .i64 (Lib.compareInt x.1 y.1)] 3)).drew = w2 at HOR hHeld ⊢
  rw [show (if Lib.compareInt x.2.next y.2.next ≠ 0 then Lib.compareInt x.2.next y.2.next else Lib.compareInt x.1 y.1) = D from HD.out] at HOR
  refine wpAnyH_ready (rs := [13]) (by kernel_rfl) (by simp) ?_
  refine readyOne rfl (fun K' hK => ?_)
  go_simp
  refine HOR.out.mono ?_
  rintro e wT ⟨rfl, rfl⟩
  go_wp2_with fail
  refine hK.out _ _ hHeld (fun hS2 => ?_)
  clear hK K' hHeld
  have hHeld := hS2
  clear hS2
  try simp only [Act.put, List.setIfInBounds_toArray, List.set_cons_zero, List.set_cons_succ]
  refine takeL (i := 14) (v := .int .i64 D) rfl (by kernel_rfl) (by kernel_rfl) (by kernel_rfl) (fun _ _ _ h => h) (Or.inl ⟨by rfl, ?_⟩) (by assumption) ?_
  · intro x hSx; go_simp
  try simp only [Act.put, List.setIfInBounds_toArray, List.set_cons_zero, List.set_cons_succ]
  refine wpAnyH_done (by kernel_rfl) ?_ _
  go_wp2
  go_ret
  exact ⟨rfl, HB.out.trans (hHeld.mono HB.out.size)⟩

end Go.Proofs.Ytjfilicddnhniab
