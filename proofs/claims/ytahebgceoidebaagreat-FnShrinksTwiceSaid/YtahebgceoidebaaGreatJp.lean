/- Texts of our own, joined. -/
import Derived.Test.YtahebgceoidebaaGreatJj
import Derived.Test.YtahebgceoidebaaGreatJo
import Derived.Test.YtahebgceoidebaaGreatJl
import Derived.Test.YtahebgceoidebaaGreatJk
import Derived.Test.YtahebgceoidebaaGreatJb
import Derived.Laws.Bits128
import Derived.Lib.SmallJoins
import Derived.WalkSpells
import Derived.WalkSmall
import Derived.Deep.RegionHeld3
import Derived.Deep.QuietTactic
import Derived.BigQuiet
/- The closures of wantedByKind. -/
namespace Go.Proofs.YtahebgceoidebaaGreat
open Go.RowKit

def inN (x : Nat) : Value := .int .i64 (x : Int)
theorem inN_inj (x y : Nat) (h : inN x = inN y) : x = y := by unfold inN at h; simp at h; omega
def boxO (f : Int × Int × Int → Option Nat) (v : Int) : Bool := (f (1, v, 0)).isSome && !(f (2, v, 0)).isSome
def addO (f : Int × Int × Int → Option Nat) (v u : Int) : Bool := boxO f v && (f (3, v, u)).isSome
def mailO (f : Int × Int × Int → Option Nat) (v u : Int) : Bool := addO f v u && !(f (5, v, u)).isSome

/-- What the closures see. -/
structure Wn (w : World) (gM n : Nat) (f : Int × Int × Int → Option Nat) (v : Value) (l : List Itm) (g2 g3 g5 g6 g7 : Nat) : Prop where
  map : MapIs sjK inN w gM n f
  c2 : w.cell? ⟨g2, 0, none⟩ = some v
  c3 : w.cell? ⟨g3, 0, none⟩ = some (.map (some gM))
  c5 : w.cell? ⟨g5, 0, none⟩ = some (.func (.func 56) #[] #[.pointer (some ⟨g3, 0, none⟩)])
  c6 : w.cell? ⟨g6, 0, none⟩ = some (.func (.func 57) #[] #[.pointer (some ⟨g5, 0, none⟩)])
  c7 : w.cell? ⟨g7, 0, none⟩ = some (.func (.func 58) #[] #[.pointer (some ⟨g6, 0, none⟩), .pointer (some ⟨g5, 0, none⟩)])
  rows : Rows' itE w v l
theorem Wn.later {w w' : World} {gM n g2 g3 g5 g6 g7 : Nat} {f : Int × Int × Int → Option Nat} {v : Value} {l : List Itm} (h : Wn w gM n f v l g2 g3 g5 g6 g7) (hb : Below w.heap.size w w') : Wn w' gM n f v l g2 g3 g5 g6 g7 :=
  have k : ∀ {g : Nat} {u : Value}, w.cell? ⟨g, 0, none⟩ = some u → w'.cell? ⟨g, 0, none⟩ = some u := fun {g _} hc => (hb.cell (p := ⟨g, 0, none⟩) (World.block_lt_of_cell? _ _ hc)).trans hc
  ⟨h.map.later hb, k h.c2, k h.c3, k h.c5, k h.c6, k h.c7, h.rows.later hb⟩

theorem zero_intN (w : World) : (zeroValue 3).run Tryz.prog w = .ok (.int .i64 0) w := by kernel_rfl

theorem sj_ok {k v u : Int} (h1 : 0 ≤ k ∧ k ≤ 9999) (h2 : 0 ≤ v ∧ v ≤ 9999) (h3 : 0 ≤ u ∧ u ≤ 9999) : sjK.ok (k, v, u) := ⟨wf_of (x := k) (by omega) (by omega), wf_of (x := v) (by omega) (by omega), wf_of (x := u) (by omega) (by omega)⟩

set_option maxRecDepth 100000 in
theorem told_any (kk vv uu : Int) (w : World) (gM n g3 : Nat) (f : Int × Int × Int → Option Nat) (hm : MapIs sjK inN w gM n f) (h3 : w.cell? ⟨g3, 0, none⟩ = some (.map (some gM))) (hok : sjK.ok (kk, vv, uu)) :
    Calls Tryz.prog 56 #[.int .i64 kk, .int .i64 vv, .int .i64 uu, .pointer (some ⟨g3, 0, none⟩)] w fun e w' => e = .returned (.bool (f (kk, vv, uu)).isSome) ∧ w = w' := by
  cases hf : f (kk, vv, uu) with
  | none =>
    have hlk : (Instr.lookup 72 (.map (some gM)) (.agg #[.int .i64 kk, .int .i64 vv, .int .i64 uu]) true).run Tryz.prog w = .ok (.tuple #[.int .i64 0, .bool false]) w := hm.look_gone (t := 72) Tryz.underlying72 (zero_intN w) hok hf true
    clear hm hf
    go_enter Tryz.func56, Tryz.ntmps56
    go_wp2
    go_ret
    exact ⟨rfl, rfl⟩
  | some c =>
    have hlk : (Instr.lookup 72 (.map (some gM)) (.agg #[.int .i64 kk, .int .i64 vv, .int .i64 uu]) true).run Tryz.prog w = .ok (.tuple #[.int .i64 (c : Int), .bool true]) w := hm.look_there (t := 72) Tryz.underlying72 (zero_intN w) hok hf true
    clear hm hf
    go_enter Tryz.func56, Tryz.ntmps56
    go_wp2
    go_ret
    exact ⟨rfl, rfl⟩

set_option maxRecDepth 100000 in
set_option maxHeartbeats 1000000 in
theorem boxThere_any (r : Rc) (w : World) {gM n g2 g3 g5 g6 g7 : Nat} {f : Int × Int × Int → Option Nat} {v : Value} {l : List Itm} (h : Wn w gM n f v l g2 g3 g5 g6 g7) (hv : 1 ≤ r.valid ∧ r.valid ≤ 9999) :
    Calls Tryz.prog 57 #[r.v, .pointer (some ⟨g5, 0, none⟩)] w fun e w' => e = .returned (.bool (boxO f r.valid)) ∧ Below w.heap.size w w' := by
  have b1 := belNew w (.cells r.cs 47)
  have hx := (Box.new w r.cs 47).rec
  have h' := h.later b1
  have T1 := Lib.hid (told_any 1 r.valid 0 _ gM n g3 f h'.map h'.c3 (sj_ok (by omega) (by omega) (by omega)))
  have T2 := Lib.hid (told_any 2 r.valid 0 _ gM n g3 f h'.map h'.c3 (sj_ok (by omega) (by omega) (by omega)))
  have HE : Hid (boxO f r.valid = ((f (1, r.valid, 0)).isSome && !(f (2, r.valid, 0)).isSome)) := by show _ = _; rfl
  have c5 := h'.c5
  generalize (f (1, r.valid, 0)).isSome = A at T1 HE
  generalize (f (2, r.valid, 0)).isSome = B at T2 HE
  obtain ⟨_, x1, _⟩ := hx
  obtain ⟨K, V, U, N, FL, US, NM, TX⟩ := r
  unfold Rc.v
  unfold Rc.cs at *
  simp only at *
  clear h h'
  cases A with
  | false =>
    go_enter Tryz.func57, Tryz.ntmps57
    go_wp2_with (go_at_call 56; refine T1.out.mono ?_; rintro e w1 ⟨rfl, rfl⟩)
    go_ret
    exact ⟨by rw [HE.out]; rfl, b1⟩
  | true =>
    go_enter Tryz.func57, Tryz.ntmps57
    go_wp2_with (first | (go_at_call 56; with_reducible refine T1.out.mono ?_; rintro e w1 ⟨rfl, rfl⟩) | (go_at_call 56; with_reducible refine T2.out.mono ?_; rintro e w1 ⟨rfl, rfl⟩))
    go_ret
    exact ⟨by rw [HE.out]; first | rfl | (cases B <;> rfl), b1⟩

set_option maxRecDepth 100000 in
set_option maxHeartbeats 1000000 in
theorem addedThere_any (r : Rc) (w : World) {gM n g2 g3 g5 g6 g7 : Nat} {f : Int × Int × Int → Option Nat} {v : Value} {l : List Itm} (h : Wn w gM n f v l g2 g3 g5 g6 g7) (hv : 1 ≤ r.valid ∧ r.valid ≤ 9999) (hu : 0 ≤ r.uid ∧ r.uid ≤ 9999) :
    Calls Tryz.prog 58 #[r.v, .pointer (some ⟨g6, 0, none⟩), .pointer (some ⟨g5, 0, none⟩)] w fun e w' => e = .returned (.bool (addO f r.valid r.uid)) ∧ Below w.heap.size w w' := by
  have b1 := belNew w (.cells r.cs 47)
  have hx := Box.new w r.cs 47
  have h' := h.later b1
  have T1 := Lib.hid (boxThere_any r _ h' hv)
  have T2 := Lib.hid (fun x (hx : Below (w.alloc (.cells r.cs 47)).heap.size (w.alloc (.cells r.cs 47)) x) => told_any 3 r.valid r.uid x gM n g3 f (h'.later hx).map (h'.later hx).c3 (sj_ok (by omega) (by omega) (by omega)))
  have HC : Hid (∀ x, Below (w.alloc (.cells r.cs 47)).heap.size (w.alloc (.cells r.cs 47)) x → x.cell? ⟨g5, 0, none⟩ = some (.func (.func 56) #[] #[.pointer (some ⟨g3, 0, none⟩)]) ∧ x.cell? ⟨w.heap.size, 1, none⟩ = some (.int .i64 r.valid) ∧ x.cell? ⟨w.heap.size, 2, none⟩ = some (.int .i64 r.uid)) := fun x hx2 => ⟨(h'.later hx2).c5, (hx.later hx2).rec.2.1, (hx.later hx2).rec.2.2.1⟩
  have HE : Hid (addO f r.valid r.uid = (boxO f r.valid && (f (3, r.valid, r.uid)).isSome)) := by show _ = _; rfl
  have cC := h'.c6
  have c5 := h'.c5
  generalize boxO f r.valid = A at T1 HE
  generalize (f (3, r.valid, r.uid)).isSome = B at T2 HE
  obtain ⟨x0, x1, x2, x3, x4, x5, x6, x7⟩ := hx.rec
  obtain ⟨K, V, U, N, FL, US, NM, TX⟩ := r
  unfold Rc.v at T1 ⊢
  unfold Rc.cs at *
  simp only at *
  clear h h' hx
  cases A with
  | false =>
    go_enter Tryz.func58, Tryz.ntmps58
    go_wp2_with (go_at_call 57; refine T1.out.mono ?_; rintro e w1 ⟨rfl, k1⟩)
    go_ret
    exact ⟨by rw [HE.out]; rfl, b1.trans (k1.mono b1.size)⟩
  | true =>
    go_enter Tryz.func58, Tryz.ntmps58
    go_wp2_with (first | (go_at_call 57; refine T1.out.mono ?_; rintro e w1 ⟨rfl, k1⟩; obtain ⟨d5, d1, d2⟩ := HC.out _ k1) | (go_at_call 56; refine (T2.out _ k1).mono ?_; rintro e w2 ⟨rfl, rfl⟩))
    go_ret
    exact ⟨by rw [HE.out]; first | rfl | (cases B <;> rfl), b1.trans (k1.mono b1.size)⟩

set_option maxRecDepth 100000 in
set_option maxHeartbeats 1000000 in
theorem mailThere_any (r : Rc) (w : World) {gM n g2 g3 g5 g6 g7 : Nat} {f : Int × Int × Int → Option Nat} {v : Value} {l : List Itm} (h : Wn w gM n f v l g2 g3 g5 g6 g7) (hv : 1 ≤ r.valid ∧ r.valid ≤ 9999) (hu : 0 ≤ r.uid ∧ r.uid ≤ 9999) :
    Calls Tryz.prog 59 #[r.v, .pointer (some ⟨g7, 0, none⟩), .pointer (some ⟨g5, 0, none⟩)] w fun e w' => e = .returned (.bool (mailO f r.valid r.uid)) ∧ Below w.heap.size w w' := by
  have b1 := belNew w (.cells r.cs 47)
  have hx := Box.new w r.cs 47
  have h' := h.later b1
  have T1 := Lib.hid (addedThere_any r _ h' hv hu)
  have T2 := Lib.hid (fun x (hx : Below (w.alloc (.cells r.cs 47)).heap.size (w.alloc (.cells r.cs 47)) x) => told_any 5 r.valid r.uid x gM n g3 f (h'.later hx).map (h'.later hx).c3 (sj_ok (by omega) (by omega) (by omega)))
  have HC : Hid (∀ x, Below (w.alloc (.cells r.cs 47)).heap.size (w.alloc (.cells r.cs 47)) x → x.cell? ⟨g5, 0, none⟩ = some (.func (.func 56) #[] #[.pointer (some ⟨g3, 0, none⟩)]) ∧ x.cell? ⟨w.heap.size, 1, none⟩ = some (.int .i64 r.valid) ∧ x.cell? ⟨w.heap.size, 2, none⟩ = some (.int .i64 r.uid)) := fun x hx2 => ⟨(h'.later hx2).c5, (hx.later hx2).rec.2.1, (hx.later hx2).rec.2.2.1⟩
  have HE : Hid (mailO f r.valid r.uid = (addO f r.valid r.uid && !(f (5, r.valid, r.uid)).isSome)) := by show _ = _; rfl
  have cC := h'.c7
  have c5 := h'.c5
  generalize addO f r.valid r.uid = A at T1 HE
  generalize (f (5, r.valid, r.uid)).isSome = B at T2 HE
  obtain ⟨x0, x1, x2, x3, x4, x5, x6, x7⟩ := hx.rec
  obtain ⟨K, V, U, N, FL, US, NM, TX⟩ := r
  unfold Rc.v at T1 ⊢
  unfold Rc.cs at *
  simp only at *
  clear h h' hx
  cases A with
  | false =>
    go_enter Tryz.func59, Tryz.ntmps59
    go_wp2_with (go_at_call 58; refine T1.out.mono ?_; rintro e w1 ⟨rfl, k1⟩)
    go_ret
    exact ⟨by rw [HE.out]; rfl, b1.trans (k1.mono b1.size)⟩
  | true =>
    go_enter Tryz.func59, Tryz.ntmps59
    go_wp2_with (first | (go_at_call 58; refine T1.out.mono ?_; rintro e w1 ⟨rfl, k1⟩; obtain ⟨d5, d1, d2⟩ := HC.out _ k1) | (go_at_call 56; refine (T2.out _ k1).mono ?_; rintro e w2 ⟨rfl, rfl⟩))
    go_ret
    exact ⟨by rw [HE.out]; first | rfl | (cases B <;> rfl), b1.trans (k1.mono b1.size)⟩

def othB (rK rV : Int) (y : Itm) : Bool := decide (y.2.valid = rV ∧ y.2.kind ≠ rK)
set_option maxRecDepth 100000 in
set_option maxHeartbeats 1000000 in
theorem oth_any (x : Itm) (rK rV : Int) (gr : Nat) (w : World) (h0 : w.cell? ⟨gr, 0, none⟩ = some (.int .i64 rK)) (h1 : w.cell? ⟨gr, 1, none⟩ = some (.int .i64 rV)) :
    Calls Tryz.prog 62 #[itV x.1 x.2, .pointer (some ⟨gr, 0, none⟩)] w fun e w' => e = .returned (.bool (othB rK rV x)) ∧ Below w.heap.size w w' := by
  obtain ⟨sq, K, V, U, N, FL, US, NM, TX⟩ := x
  have HE : Hid (othB rK rV (sq, ⟨K, V, U, N, FL, US, NM, TX⟩) = decide (V = rV ∧ K ≠ rK)) := by show _ = _; rfl
  generalize othB rK rV (sq, ⟨K, V, U, N, FL, US, NM, TX⟩) = D at HE ⊢
  unfold itV
  simp only
  have b1 := belNew w (.cells #[.int .i64 sq, .int .i64 K, .int .i64 V, .int .i64 U, .int .i64 N, .int .i64 FL, .string US, .string NM, .string TX] 49)
  have l0 := World.block_lt_of_cell? _ _ h0
  have d0 := (b1.cell (p := ⟨gr, 0, none⟩) l0).trans h0
  have d1 := (b1.cell (p := ⟨gr, 1, none⟩) l0).trans h1
  clear h0 h1 l0
  by_cases hv : V = rV
  · subst hv
    by_cases hk : K = rK
    · subst hk
      have HD : Hid (D = false) := by rw [HE.out]; exact decide_eq_false (fun c => c.2 rfl)
      clear HE
      go_enter Tryz.func62, Tryz.ntmps62
      go_wp2
      go_ret
      exact ⟨by rw [HD.out]; rfl, b1⟩
    · have hk' : (K == rK) = false := beq_eq_false_iff_ne.2 hk
      have hk2 : (K != rK) = true := bne_iff_ne.2 hk
      have HD : Hid (D = true) := by rw [HE.out]; exact decide_eq_true ⟨rfl, hk⟩
      clear HE
      go_enter Tryz.func62, Tryz.ntmps62
      go_wp2
      go_ret
      exact ⟨by rw [HD.out]; first | rfl | simp [hk'], b1⟩
  · have hv' : (V == rV) = false := beq_eq_false_iff_ne.2 hv
    have HD : Hid (D = false) := by rw [HE.out]; exact decide_eq_false (fun c => hv c.1)
    clear HE
    go_enter Tryz.func62, Tryz.ntmps62
    go_wp2
    go_ret
    exact ⟨by rw [HD.out]; rfl, b1⟩

set_option maxRecDepth 100000 in
set_option maxHeartbeats 2000000 in
theorem indexFunc_any (l : List Itm) (v : Value) (rK rV : Int) (gr : Nat) (w : World) (h : Rows' itE w v l) (hl : l.length ≤ 1048576) (h0 : w.cell? ⟨gr, 0, none⟩ = some (.int .i64 rK)) (h1 : w.cell? ⟨gr, 1, none⟩ = some (.int .i64 rV)) :
    Calls Tryz.prog 81 #[v, .func (.func 62) #[] #[.pointer (some ⟨gr, 0, none⟩)]] w fun e w' => (∃ r : Int, e = .returned (.int .i64 r) ∧ ((0 ≤ r ∧ l.any (othB rK rV) = true) ∨ (¬ 0 ≤ r ∧ l.any (othB rK rV) = false))) ∧ Below w.heap.size w w' := by
  obtain ⟨ad, cap, rfl, hrow⟩ := h.items
  have HR := Lib.hid hrow
  clear h hrow
  obtain ⟨n, hn⟩ : ∃ n, l.length = n := ⟨_, rfl⟩
  rw [hn] at hl ⊢
  have HN := Lib.hid hn
  clear hn
  have l0 := World.block_lt_of_cell? _ _ h0
  have HO : Hid (∀ (y : Itm) x, Below w.heap.size w x → Calls Tryz.prog 62 #[itV y.1 y.2, .pointer (some ⟨gr, 0, none⟩)] x fun e w' => e = .returned (.bool (othB rK rV y)) ∧ Below x.heap.size x w') := fun y x hx => oth_any y rK rV gr x ((hx.cell (p := ⟨gr, 0, none⟩) l0).trans h0) ((hx.cell (p := ⟨gr, 1, none⟩) l0).trans h1)
  clear h0 h1 l0
  obtain ⟨Q, hQ⟩ : ∃ Q, l.any (othB rK rV) = Q := ⟨_, rfl⟩
  rw [hQ]
  have HQ := Lib.hid hQ
  clear hQ
  have F0 : Hid (∀ y ∈ l.take 0, othB rK rV y = false) := fun y hy => by simp at hy
  go_enter Tryz.func81, Tryz.ntmps81
  go_wp2
  go_loopw [8] (fun iv wr => ∃ i : Nat, i ≤ n ∧ iv = .int .i64 (i : Int) ∧ (∀ y ∈ l.take i, othB rK rV y = false) ∧ Below w.heap.size w wr) (fun iv _ => n - (intOf iv).toNat)
  case atStart => exact ⟨0, by omega, rfl, F0.out, Below.refl _ _⟩
  case round =>
    clear F0
    obtain ⟨i, hi, rfl, hno, bq⟩ := hrel
    by_cases hlt : i < n
    · obtain ⟨y, hgy⟩ : ∃ y, l[i]? = some y := ⟨_, List.getElem?_eq_getElem (by rw [HN.out]; omega)⟩
      obtain ⟨gp, op, rfl, p0, p1, p2, p3, p4, p5, p6, p7, p8⟩ := HR.out _ bq i y hgy
      have HOY := Lib.hid (HO.out y _ bq)
      have HNX : Hid (othB rK rV y = false → ∀ z ∈ l.take (i + 1), othB rK rV z = false) := fun hy z hz => by
        rw [List.take_add_one, hgy] at hz
        rcases List.mem_append.1 hz with h | h
        · exact hno z h
        · simp at h; rw [h]; exact hy
      have HFA : Hid (othB rK rV y = true → Q = true) := fun hy => by rw [← HQ.out]; exact List.any_eq_true.2 ⟨y, List.mem_of_getElem? hgy, hy⟩
      clear hgy hno
      generalize othB rK rV y = D at HOY HNX HFA
      obtain ⟨sq, K, V, U, N, FL, US, NM, TX⟩ := y
      unfold itV at HOY
      simp only at p0 p1 p2 p3 p4 p5 p6 p7 p8 HOY
      have hi0 : (0 : Int) ≤ (i : Int) := by omega
      have hi1 : (i : Int) < (n : Int) := by omega
      cases D with
      | true =>
        have HF := Lib.hid (HFA.out rfl)
        clear HFA HNX
        go_wp2_with (go_at_call 62; refine HOY.out.mono ?_; rintro e w1 ⟨rfl, k1⟩)
        go_ret
        exact ⟨⟨(i : Int), rfl, .inl ⟨hi0, HF.out⟩⟩, bq.trans (k1.mono bq.size)⟩
      | false =>
        have HN2 := Lib.hid (HNX.out rfl)
        clear HFA HNX
        go_wp2_with (go_at_call 62; refine HOY.out.mono ?_; rintro e w1 ⟨rfl, k1⟩)
        exact ⟨⟨i + 1, by omega, by simp, HN2.out, bq.trans (k1.mono bq.size)⟩, by first | omega | (simp [intOf]; omega)⟩
    · have HF : Hid (Q = false) := by
        rw [← HQ.out]
        show _ = false
        rw [List.any_eq_false]
        intro y hy
        rw [hno y (by rw [List.take_of_length_le (by rw [HN.out]; omega)]; exact hy)]
        exact Bool.false_ne_true
      clear hno
      go_wp2
      go_ret
      exact ⟨⟨-1, rfl, .inr ⟨by omega, HF.out⟩⟩, bq⟩

set_option maxRecDepth 100000 in
theorem containsFunc_any (l : List Itm) (v : Value) (rK rV : Int) (gr : Nat) (w : World) (h : Rows' itE w v l) (hl : l.length ≤ 1048576) (h0 : w.cell? ⟨gr, 0, none⟩ = some (.int .i64 rK)) (h1 : w.cell? ⟨gr, 1, none⟩ = some (.int .i64 rV)) :
    Calls Tryz.prog 61 #[v, .func (.func 62) #[] #[.pointer (some ⟨gr, 0, none⟩)]] w fun e w' => e = .returned (.bool (l.any (othB rK rV))) ∧ Below w.heap.size w w' := by
  have HI := Lib.hid (indexFunc_any l v rK rV gr w h hl h0 h1)
  obtain ⟨ad, cap, rfl, _⟩ := h.items
  clear h h0 h1
  go_enter Tryz.func61, Tryz.ntmps61
  go_wp2_with fail
  refine HI.out.mono ?_
  rintro e w1 ⟨⟨r, rfl, hr⟩, k1⟩
  clear HI
  rcases hr with ⟨hr, he⟩ | ⟨hr, he⟩
  · have HE := Lib.hid he
    clear he
    go_wp2
    go_ret
    exact ⟨by rw [HE.out]; first | rfl | simp [hr], k1⟩
  · have HE := Lib.hid he
    clear he
    go_wp2
    go_ret
    exact ⟨by rw [HE.out]; first | rfl | simp [hr], k1⟩

set_option maxRecDepth 100000 in
set_option maxHeartbeats 1000000 in
theorem othersThere_any (r : Rc) (w : World) {gM n g2 g3 g5 g6 g7 : Nat} {f : Int × Int × Int → Option Nat} {v : Value} {l : List Itm} (h : Wn w gM n f v l g2 g3 g5 g6 g7) (hl : l.length ≤ 1048576) :
    Calls Tryz.prog 60 #[r.v, .pointer (some ⟨g2, 0, none⟩)] w fun e w' => e = .returned (.bool (l.any (othB r.kind r.valid))) ∧ Below w.heap.size w w' := by
  have b1 := belNew w (.cells r.cs 47)
  have hx := (Box.new w r.cs 47).rec
  have h' := h.later b1
  have HCF := Lib.hid (containsFunc_any l v r.kind r.valid w.heap.size _ h'.rows hl hx.1 hx.2.1)
  have c2 := h'.c2
  obtain ⟨ad, cap, rfl, _⟩ := h.rows.items
  have hmf : ∀ (fn : Fn) (first cap : Array Value) (w : World), (Instr.makeFunc fn first cap).run Tryz.prog w = .ok (.func fn first cap) w := fun _ _ _ _ => rfl
  generalize l.any (othB r.kind r.valid) = D at HCF
  obtain ⟨K, V, U, N, FL, US, NM, TX⟩ := r
  unfold Rc.v
  unfold Rc.cs at *
  simp only at *
  clear h h' hx
  go_enter Tryz.func60, Tryz.ntmps60
  go_wp2_with (go_at_call 61; refine HCF.out.mono ?_; rintro e w1 ⟨rfl, k1⟩)
  go_ret
  exact ⟨rfl, b1.trans (k1.mono b1.size)⟩

end Go.Proofs.YtahebgceoidebaaGreat

/- What is needed is what tells its subject, and is wanted. -/
namespace Go.Proofs.YtahebgceoidebaaGreat

def noBig (l : List Itm) (x : Itm) : Bool := !(l.any fun y => decide (sjOf y = sjOf x) && bigB y x)
def othS (rK rV : Int) (y : Itm) : Bool := decide (y.2.valid = rV ∧ y.2.kind ≠ rK)
def wantO (l : List Itm) (f : Int × Int × Int → Option Nat) (x : Itm) : Bool :=
  if x.2.kind = 1 then boxO f x.2.valid else if x.2.kind = 2 then l.any (othS x.2.kind x.2.valid) else if x.2.kind = 5 then addO f x.2.valid x.2.uid else mailO f x.2.valid x.2.uid

theorem noBig_iff {l : List Itm} {x : Itm} : noBig l x = true ↔ ∀ y ∈ l, sjOf y = sjOf x → bigB y x = false := by
  unfold noBig
  rw [Bool.not_eq_true', List.any_eq_false]
  constructor
  · intro h y hy e
    have := h y hy
    simp only [Bool.and_eq_true, decide_eq_true_eq, not_and, Bool.not_eq_true] at this
    exact this e
  · intro h y hy
    simp only [Bool.and_eq_true, decide_eq_true_eq, not_and, Bool.not_eq_true]
    exact h y hy
theorem bigB_eq {a b : Itm} (h1 : bigB a b = false) (h2 : bigB b a = false) : a.1 = b.1 := by
  unfold bigB aheadB at *
  simp only [decide_eq_false_iff_not] at *
  omega

theorem tel_iff {l : List Itm} (hu : Uniq l) {i : Nat} {x : Itm} (hx : l[i]? = some x) : decide (telP l l.length (sjOf x) = some i) = (firstB l i x && noBig l x) := by
  have hi : i < l.length := (List.getElem?_eq_some_iff.1 hx).1
  have hxl : x ∈ l := List.mem_of_getElem? hx
  rcases telI l l.length (Nat.le_refl _) (sjOf x) with ⟨h1, h2⟩ | ⟨j, z, h1, h2, h3, h4, h5, h6⟩
  · exact absurd rfl (h2 i x hi hx)
  · have hzl : z ∈ l := List.mem_of_getElem? h3
    have hbig : ∀ y ∈ l, sjOf y = sjOf x → bigB y z = false := fun y hy e => by
      obtain ⟨q, hq⟩ := List.mem_iff_getElem?.1 hy
      exact h5 q y (List.getElem?_eq_some_iff.1 hq).1 hq e
    by_cases hji : j = i
    · subst hji
      have hzx : z = x := Option.some.inj (h3.symm.trans hx)
      subst hzx
      rw [decide_eq_true h1]
      have hf : firstB l j z = true := by
        unfold firstB
        have : (l.take j).any (fun y => decide (y.1 = z.1)) = false := by
          rw [List.any_eq_false]
          intro y hy
          simp only [decide_eq_true_eq]
          intro e
          obtain ⟨q, hq⟩ := List.mem_iff_getElem?.1 hy
          have hql : q < j := by have := (List.getElem?_eq_some_iff.1 hq).1; rw [List.length_take] at this; omega
          rw [List.getElem?_take_of_lt hql] at hq
          have hyz : y = z := hu y (List.mem_of_getElem? hq) z hzl e
          have := h6 q y hql hq (by rw [hyz])
          rw [hyz, bigB_self] at this
          cases this
        rw [this]; rfl
      rw [hf, noBig_iff.2 hbig]; rfl
    · rw [h1, decide_eq_false (fun e => hji (Option.some.inj e))]
      symm
      rw [Bool.and_eq_false_iff]
      by_cases hn : noBig l x = true
      · left
        have hzx : z = x := hu z hzl x hxl (bigB_eq (noBig_iff.1 hn z hzl h4) (hbig x hxl rfl))
        have hlt : j < i := by
          rcases Nat.lt_or_gt_of_ne hji with h | h
          · exact h
          · have := h6 i x h hx rfl
            rw [hzx, bigB_self] at this
            cases this
        unfold firstB
        rw [List.any_eq_true.2 ⟨z, List.mem_of_getElem? (i := j) (by rw [List.getElem?_take_of_lt hlt]; exact h3), by rw [hzx]; simp⟩]
        rfl
      · right
        exact Bool.eq_false_iff.2 hn

theorem tel_has {l : List Itm} (k v u : Int) : (telP l l.length (k, v, u)).isSome = hasO l k v u := by
  unfold hasO
  rcases telI l l.length (Nat.le_refl _) (k, v, u) with ⟨h1, h2⟩ | ⟨j, z, h1, h2, h3, h4, _⟩
  · rw [h1]
    cases hb : bestR k v u l with
    | none => rfl
    | some y =>
      obtain ⟨hy, e, _⟩ := bestR_some hb
      obtain ⟨q, hq⟩ := List.mem_iff_getElem?.1 hy
      exact absurd (by unfold sjOf; rw [e.1, e.2.1, e.2.2]) (h2 q y (List.getElem?_eq_some_iff.1 hq).1 hq)
  · rw [h1]
    have e : z.2.kind = k ∧ z.2.valid = v ∧ z.2.uid = u := by unfold sjOf at h4; simpa using h4
    obtain ⟨y, hy⟩ := bestR_there (List.mem_of_getElem? h3) e
    rw [hy]
    rfl

theorem ok_next {r : Rc} (h : r.ok) (hk : r.kind ≠ 1) : r.next = 0 := by
  have := h.2.2.1
  rw [if_neg hk] at this
  exact this.2.2
theorem tel_uid {r : Rc} (h : r.ok) (hk : r.kind < 3) : r.uid = 0 := by
  have := h.2.2.2.1
  rw [if_neg (by omega)] at this
  exact this

theorem seq_noBig {l : List Itm} (hok : ∀ y ∈ l, y.2.ok) {x : Itm} (hx : x ∈ l) (hk : x.2.kind ≠ 1) : seqB (bestR x.2.kind x.2.valid x.2.uid l) x = noBig l x := by
  obtain ⟨b, hb⟩ := bestR_there hx ⟨rfl, rfl, rfl⟩
  obtain ⟨hbl, hbe, hbm⟩ := bestR_some hb
  rw [hb]
  have hnx : ∀ y ∈ l, sjOf y = sjOf x → y.2.next = 0 := fun y hy e => ok_next (hok y hy) (by
    have : y.2.kind = x.2.kind := congrArg Prod.fst e
    rw [this]; exact hk)
  have hx0 := hnx x hx rfl
  have hxb : x.1 ≤ b.1 := hbm x hx rfl rfl rfl
  by_cases hn : noBig l x = true
  · rw [hn]
    have hs : sjOf b = sjOf x := by unfold sjOf; rw [hbe.1, hbe.2.1, hbe.2.2]
    have h1 := noBig_iff.1 hn b hbl hs
    have hb0 := hnx b hbl hs
    unfold bigB aheadB at h1
    simp only [decide_eq_false_iff_not] at h1
    show decide (b.1 = x.1) = true
    exact decide_eq_true (by omega)
  · rw [Bool.eq_false_iff.2 hn]
    show decide (b.1 = x.1) = false
    refine decide_eq_false (fun e => hn (noBig_iff.2 fun y hy hs => ?_))
    have h1 := hbm y hy (congrArg Prod.fst hs) (congrArg (fun s => s.2.1) hs) (congrArg (fun s => s.2.2) hs)
    have hy0 := hnx y hy hs
    unfold bigB aheadB
    simp only [decide_eq_false_iff_not]
    omega

theorem need_iff {l : List Itm} (hok : ∀ y ∈ l, y.2.ok) {x : Itm} (hx : x ∈ l) : needO l x = (noBig l x && wantO l (telP l l.length) x) := by
  have hb : ∀ v, boxO (telP l l.length) v = thereO l v := fun v => by unfold boxO thereO; rw [tel_has, tel_has]
  have ha : ∀ v u, addO (telP l l.length) v u = (thereO l v && hasO l 3 v u) := fun v u => by unfold addO; rw [hb, tel_has]
  have hm : ∀ v u, mailO (telP l l.length) v u = ((thereO l v && hasO l 3 v u) && !hasO l 5 v u) := fun v u => by unfold mailO; rw [ha, tel_has]
  have hxo := hok x hx
  unfold needO wantO
  by_cases h1 : x.2.kind = 1
  · rw [if_pos h1, if_pos h1, hb]
    congr 1
    unfold anyBig noBig
    congr 1
    have : ∀ y ∈ l, (decide (y.2.kind = 1 ∧ y.2.valid = x.2.valid) && bigB y x) = (decide (sjOf y = sjOf x) && bigB y x) := fun y hy => by
      congr 1
      apply decide_eq_decide.2
      unfold sjOf
      constructor
      · rintro ⟨e1, e2⟩
        rw [e1, e2, h1, tel_uid (hok y hy) (by omega), tel_uid hxo (by omega)]
      · intro e
        simp only [Prod.mk.injEq] at e
        exact ⟨by omega, e.2.1⟩
    rw [Bool.eq_iff_iff, List.any_eq_true, List.any_eq_true]
    constructor
    · rintro ⟨y, hy, e⟩; exact ⟨y, hy, by rw [← this y hy]; exact e⟩
    · rintro ⟨y, hy, e⟩; exact ⟨y, hy, by rw [this y hy]; exact e⟩
  · rw [if_neg h1, if_neg h1]
    by_cases h2 : x.2.kind = 2
    · rw [if_pos h2, if_pos h2]
      have hsb := seq_noBig hok hx h1
      rw [h2, tel_uid hxo (by omega)] at hsb
      rw [hsb, Bool.and_comm]
      congr 1
      unfold anyOther
      rw [h2, Bool.eq_iff_iff, List.any_eq_true, List.any_eq_true]
      constructor
      · rintro ⟨y, hy, e⟩; exact ⟨y, hy, by unfold othS; simp only [decide_eq_true_eq] at e ⊢; exact ⟨e.2, e.1⟩⟩
      · rintro ⟨y, hy, e⟩; exact ⟨y, hy, by unfold othS at e; simp only [decide_eq_true_eq] at e ⊢; exact ⟨e.2, e.1⟩⟩
    · rw [if_neg h2, if_neg h2]
      have hsb := seq_noBig hok hx h1
      by_cases h5 : x.2.kind = 5
      · rw [if_pos h5, if_pos h5, ha]
        rw [h5] at hsb
        rw [hsb, Bool.and_comm]
      · rw [if_neg h5, if_neg h5, hm, hsb, Bool.and_comm]

theorem needB_iff {l : List Itm} (hok : itemsOk l) {i : Nat} {x : Itm} (hx : l[i]? = some x) : needB l i x = (decide (telP l l.length (sjOf x) = some i) && wantO l (telP l l.length) x) := by
  rw [tel_iff hok.2.1 hx]
  unfold needB
  rw [need_iff (fun y hy => (hok.1 y hy).2) (List.mem_of_getElem? hx), Bool.and_assoc]

end Go.Proofs.YtahebgceoidebaaGreat

/- Without what is not needed all is told the same. -/
namespace Go.Proofs.YtahebgceoidebaaGreat

theorem needP_at (l : List Itm) (ok : Bool) : ∀ (n i : Nat) (x : Itm), i < n → n ≤ l.length → l[i]? = some x → (needP l ok n)[i]? = some (ok && needB l i x)
  | 0, i, x, h, _, _ => by omega
  | n + 1, i, x, h, hn, hx => by
    have hl := needP_len l ok n (by omega)
    obtain ⟨y, hy⟩ : ∃ y, l[n]? = some y := ⟨_, List.getElem?_eq_getElem (by omega)⟩
    rw [needP_step hy]
    by_cases c : i < n
    · rw [List.getElem?_append_left (by rw [hl]; exact c)]
      exact needP_at l ok n i x c (by omega) hx
    · have e : i = n := by omega
      subst e
      rw [List.getElem?_append_right (by rw [hl]; exact Nat.le_refl _), hl, Nat.sub_self]
      rw [hx] at hy
      cases hy
      rfl
theorem shP_at (d nd : List Bool) : ∀ (n i : Nat), i < n → (shP d nd n)[i]? = some (decide (d[i]? = some true) && !decide (nd[i]? = some true))
  | 0, i, h => by omega
  | n + 1, i, h => by
    have hl := shP_len d nd n
    show (shP d nd n ++ _)[i]? = _
    by_cases c : i < n
    · rw [List.getElem?_append_left (by rw [hl]; exact c)]
      exact shP_at d nd n i c
    · have e : i = n := by omega
      subst e
      rw [List.getElem?_append_right (by rw [hl]; exact Nat.le_refl _), hl, Nat.sub_self]
      rfl
theorem mem_woT {l : List Itm} {g : List Bool} : ∀ (n i : Nat) (x : Itm), i < n → l[i]? = some x → g[i]? ≠ some true → x ∈ woT l g n
  | 0, i, x, h, _, _ => by omega
  | n + 1, i, x, h, hx, hg => by
    show x ∈ woT l g n ++ _
    by_cases c : i < n
    · exact List.mem_append_left _ (mem_woT n i x c hx hg)
    · have e : i = n := by omega
      subst e
      refine List.mem_append_right _ ?_
      rw [if_neg hg, hx]
      simp
/-- The first place of an item. -/
theorem first_atS {l : List Itm} (hu : Uniq l) {x : Itm} (hx : x ∈ l) : ∃ i, l[i]? = some x ∧ firstB l i x = true := by
  induction l with
  | nil => cases hx
  | cons y l ih =>
    by_cases c : y = x
    · exact ⟨0, by rw [c]; rfl, rfl⟩
    · have hx' : x ∈ l := by
        rcases List.mem_cons.1 hx with e | h
        · exact absurd e.symm c
        · exact h
      obtain ⟨i, h1, h2⟩ := ih (fun a ha b hb => hu a (List.mem_cons_of_mem _ ha) b (List.mem_cons_of_mem _ hb)) hx'
      refine ⟨i + 1, h1, ?_⟩
      unfold firstB at h2 ⊢
      rw [List.take_succ_cons, List.any_cons]
      have h3 : decide (y.1 = x.1) = false := decide_eq_false (fun e => c (hu y (by simp) x hx e))
      rw [h3, Bool.false_or]
      exact h2
/-- What is needed stays. -/
theorem stays {l : List Itm} {d : List Bool} (hok : itemsOk l) {x : Itm} (hx : x ∈ l) (hn : needO l x = true) : x ∈ wo l (goL l d) := by
  obtain ⟨i, hi, hf⟩ := first_atS hok.2.1 hx
  have hil : i < l.length := (List.getElem?_eq_some_iff.1 hi).1
  refine mem_woT l.length i x hil hi ?_
  unfold goL
  rw [shP_at d (needL l) l.length i hil]
  have hnd : (needL l)[i]? = some true := by
    unfold needL
    rw [needP_at l _ l.length i x hil (Nat.le_refl _) hi]
    unfold needB
    rw [hf, hn, decide_eq_true hok]
    rfl
  rw [decide_eq_true hnd]
  simp

/-- What is left, and what is put behind it. -/
structure Shr (l m q : List Itm) : Prop where
  ok : itemsOk l
  okm : itemsOk m
  sub : ∀ x ∈ m, x ∈ l
  stay : ∀ x ∈ l, needO l x = true → x ∈ m
  left : ∀ x ∈ m, x ∈ q
  new : ∀ x ∈ q, x ∈ m ∨ ∃ b ∈ tellAll l, x.2 = nxR b
  more : ∀ b ∈ tellAll l, toldB (tellAll m) b = false → ∃ x ∈ q, x.2 = nxR b

theorem mem_validsS {l : List Itm} {v : Int} : v ∈ upOf (validK l) l ↔ (∃ x ∈ l, x.2.kind = 1 ∧ x.2.valid = v) ∧ bestR 2 v 0 l = none := by
  rw [mem_upOf]
  constructor
  · rintro ⟨x, hx, e⟩
    unfold validK at e
    split at e
    · rename_i h
      cases e
      exact ⟨⟨x, hx, h.1, rfl⟩, h.2⟩
    · cases e
  · rintro ⟨⟨x, hx, a, rfl⟩, h⟩
    refine ⟨x, hx, ?_⟩
    unfold validK
    rw [if_pos ⟨a, h⟩]
theorem mem_tellAllS {l : List Itm} {b : Bx} : b ∈ tellAll l ↔ b.valid ∈ upOf (validK l) l ∧ b = boxK l b.valid := by
  unfold tellAll
  rw [List.mem_map]
  constructor
  · rintro ⟨v, hv, rfl⟩
    exact ⟨hv, rfl⟩
  · rintro ⟨h1, h2⟩
    exact ⟨b.valid, h1, h2.symm⟩
theorem tellO_someS {v : Int} {l : List Itm} {x : Itm} (h : tellO v l = some x) : x ∈ l ∧ (x.2.kind = 1 ∧ x.2.valid = v) ∧ ∀ y ∈ l, y.2.kind = 1 → y.2.valid = v → y.2.next < x.2.next ∨ (y.2.next = x.2.next ∧ y.1 ≤ x.1) := by
  have := bestO_I (fun x => x.2.next) (fun x => decide (x.2.kind = 1 ∧ x.2.valid = v)) l
  unfold tellO at h
  rw [h] at this
  exact ⟨this.1, of_decide_eq_true this.2.1, fun y hy a b => this.2.2 y hy (decide_eq_true ⟨a, b⟩)⟩
theorem tellO_thereS {v : Int} {l : List Itm} {x : Itm} (hx : x ∈ l) (h : x.2.kind = 1 ∧ x.2.valid = v) : ∃ y, tellO v l = some y := by
  cases hb : tellO v l with
  | none =>
    have := bestO_I (fun x => x.2.next) (fun x => decide (x.2.kind = 1 ∧ x.2.valid = v)) l
    unfold tellO at hb
    rw [hb] at this
    exact absurd h (of_decide_eq_false (this x hx))
  | some y => exact ⟨y, rfl⟩

variable {l m q : List Itm}

theorem Shr.old (S : Shr l m q) {x : Itm} (hx : x ∈ q) (hk : x.2.kind ≠ 1) : x ∈ l := by
  rcases S.new x hx with h | ⟨b, _, e⟩
  · exact S.sub x h
  · rw [e] at hk; exact absurd rfl hk
theorem Shr.none (S : Shr l m q) {k v u : Int} (hk : k ≠ 1) (h : bestR k v u l = none) : bestR k v u q = none := by
  cases hb : bestR k v u q with
  | none => rfl
  | some y =>
    obtain ⟨h1, h2, _⟩ := bestR_some hb
    exact absurd h2 (bestR_none h y (S.old h1 (by rw [h2.1]; exact hk)))
theorem Shr.keep (S : Shr l m q) {k v u : Int} (hk : k ≠ 1) {x : Itm} (h : bestR k v u l = some x) (hx : x ∈ m) : bestR k v u q = some x := by
  obtain ⟨h1, h2, h3⟩ := bestR_some h
  obtain ⟨y, hy⟩ := bestR_there (S.left x hx) h2
  obtain ⟨g1, g2, g3⟩ := bestR_some hy
  have hyl : y ∈ l := S.old g1 (by rw [g2.1]; exact hk)
  have e1 := h3 y hyl g2.1 g2.2.1 g2.2.2
  have e2 := g3 x (S.left x hx) h2.1 h2.2.1 h2.2.2
  rw [hy, S.ok.2.1 y hyl x h1 (by omega)]
theorem Shr.drop0 (S : Shr l m q) {v : Int} {x : Itm} (hx : x ∈ l) (hk : x.2.kind ≠ 2) (hv : x.2.valid = v) : bestR 2 v 0 q = Option.none → bestR 2 v 0 l = Option.none := by
  intro h
  cases hb : bestR 2 v 0 l with
  | none => rfl
  | some y =>
    obtain ⟨h1, h2, _⟩ := bestR_some hb
    have hn : needO l y = true := by
      unfold needO
      rw [if_neg (by rw [h2.1]; decide), if_pos h2.1, h2.2.1, hb]
      have ha : anyOther l y = true := List.any_eq_true.2 ⟨x, hx, decide_eq_true ⟨hk, by rw [hv, h2.2.1]⟩⟩
      rw [ha]
      show (true && decide (y.1 = y.1)) = true
      simp
    have := S.keep (by decide) hb (S.stay y h1 hn)
    rw [this] at h
    cases h
/-- The boxes are the same ones. -/
theorem Shr.valids (S : Shr l m q) (v : Int) : v ∈ upOf (validK q) q ↔ v ∈ upOf (validK l) l := by
  rw [mem_validsS, mem_validsS]
  constructor
  · rintro ⟨⟨x, hx, a, b⟩, h⟩
    rcases S.new x hx with hm | ⟨c, hc, e⟩
    · exact ⟨⟨x, S.sub x hm, a, b⟩, S.drop0 (S.sub x hm) (by rw [a]; decide) b h⟩
    · have h1 := (mem_tellAllS.1 hc).1
      rw [e] at b
      rw [show c.valid = v from b] at h1
      exact mem_validsS.1 h1
  · rintro ⟨⟨x, hx, a, b⟩, h⟩
    have hnone := S.none (by decide) h
    obtain ⟨z, hz⟩ := tellO_thereS hx ⟨a, b⟩
    obtain ⟨h1, h2, h3⟩ := tellO_someS hz
    refine ⟨⟨z, S.left z (S.stay z h1 ?_), h2⟩, hnone⟩
    exact need_box S.ok h1 h2 h3 h
where
  need_box {l : List Itm} {v : Int} {z : Itm} (ok : itemsOk l) (h1 : z ∈ l) (h2 : z.2.kind = 1 ∧ z.2.valid = v) (h3 : ∀ y ∈ l, y.2.kind = 1 → y.2.valid = v → y.2.next < z.2.next ∨ (y.2.next = z.2.next ∧ y.1 ≤ z.1)) (h : bestR 2 v 0 l = Option.none) : needO l z = true := by
    unfold needO
    rw [if_pos h2.1, h2.2]
    have ha : anyBig l z = false := by
      unfold anyBig
      rw [List.any_eq_false]
      intro y hy
      simp only [Bool.and_eq_true, decide_eq_true_eq, not_and, Bool.not_eq_true]
      rintro ⟨e1, e2⟩
      have := h3 y hy e1 (by rw [e2, h2.2])
      unfold bigB aheadB
      simp only [decide_eq_false_iff_not]
      omega
    rw [ha]
    have hu : z.2.uid = 0 := tel_uid (ok.1 z h1).2 (by rw [h2.1]; decide)
    obtain ⟨y, hy⟩ := bestR_there h1 ⟨h2.1, h2.2, hu⟩
    unfold thereO hasO
    rw [hy, h]
    rfl

/-- A box that is there. -/
theorem there_ofS {l : List Itm} (ok : itemsOk l) {v : Int} (hv : v ∈ upOf (validK l) l) : thereO l v = true := by
  obtain ⟨⟨x, hx, a, b⟩, h⟩ := mem_validsS.1 hv
  have hu : x.2.uid = 0 := tel_uid (ok.1 x hx).2 (by rw [a]; decide)
  obtain ⟨y, hy⟩ := bestR_there hx ⟨a, b, hu⟩
  unfold thereO hasO
  rw [hy, h]
  rfl
theorem has_of {l : List Itm} {k v u : Int} {x : Itm} (h : bestR k v u l = some x) : hasO l k v u = true := by unfold hasO; rw [h]; rfl
theorem has_not {l : List Itm} {k v u : Int} (h : bestR k v u l = Option.none) : hasO l k v u = false := by unfold hasO; rw [h]; rfl

theorem Shr.next (S : Shr l m q) {v : Int} (hv : v ∈ upOf (validK l) l) : nextOf v q = nextOf v l := by
  have hb : boxK l v ∈ tellAll l := mem_tellAllS.2 ⟨hv, rfl⟩
  obtain ⟨a1, a2, a3⟩ := mostFold (nextK v) q 1
  obtain ⟨b1, b2, b3⟩ := mostFold (nextK v) l 1
  obtain ⟨c1, c2, c3⟩ := mostFold (nextK v) m 1
  have hle : nextOf v q ≤ nextOf v l := by
    unfold nextOf mostOf
    rcases a3 with e | ⟨x, hx, e⟩
    · rw [e]; exact b1
    · rw [e]
      rcases S.new x hx with h | ⟨b, hbl, eb⟩
      · exact b2 x (S.sub x h)
      · by_cases hx1 : x.2.valid = v
        · have hbv : b.valid = v := by rw [eb] at hx1; exact hx1
          have hbe := (mem_tellAllS.1 hbl).2
          have e9 : nextK v x = nextOf v l := by
            unfold nextK
            rw [if_pos hx1, eb]
            show (if (1 : Int) = 1 then b.next else _) = _
            rw [if_pos rfl, hbe, hbv]
            rfl
          rw [e9]
          exact Int.le_refl _
        · have e9 : nextK v x = 0 := by unfold nextK; rw [if_neg hx1]
          rw [e9]
          exact Int.le_trans (by decide) b1
  have hge : nextOf v l ≤ nextOf v q := by
    cases ht : toldB (tellAll m) (boxK l v) with
    | false =>
      obtain ⟨x, hx, e⟩ := S.more _ hb ht
      have e9 : nextK v x = nextOf v l := by
        unfold nextK
        rw [e]
        show (if v = v then (if (1 : Int) = 1 then nextOf v l else _) else _) = _
        rw [if_pos rfl, if_pos rfl]
      rw [← e9]
      exact a2 x hx
    | true =>
      unfold toldB at ht
      obtain ⟨y, hy, e⟩ := List.any_eq_true.1 ht
      simp only [decide_eq_true_eq] at e
      obtain ⟨e1, e2⟩ := e
      have hym := (mem_tellAllS.1 hy).2
      have e3 : nextOf v l ≤ y.next := e2
      have e1' : y.valid = v := e1
      rw [hym, e1'] at e3
      have e4 : nextOf v l ≤ nextOf v m := e3
      refine Int.le_trans e4 ?_
      unfold nextOf mostOf
      rcases c3 with e | ⟨x, hx, e⟩
      · rw [e]; exact a1
      · rw [e]; exact a2 x (S.left x hx)
  omega

theorem Shr.words (S : Shr l m q) {v : Int} (hv : v ∈ upOf (validK l) l) : (tellO v q).elim emp (fun y => y.2.user) = (tellO v l).elim emp (fun y => y.2.user) ∧ (tellO v q).elim emp (fun y => y.2.name) = (tellO v l).elim emp (fun y => y.2.name) := by
  obtain ⟨⟨x, hx, a, b⟩, h⟩ := mem_validsS.1 hv
  obtain ⟨z, hz⟩ := tellO_thereS hx ⟨a, b⟩
  obtain ⟨h1, h2, h3⟩ := tellO_someS hz
  have hzm : z ∈ m := S.stay z h1 (Shr.valids.need_box S.ok h1 h2 h3 h)
  obtain ⟨y, hy⟩ := tellO_thereS (S.left z hzm) h2
  obtain ⟨g1, g2, g3⟩ := tellO_someS hy
  rw [hy, hz]
  rcases S.new y g1 with hm | ⟨c, hc, e⟩
  · have e1 := h3 y (S.sub y hm) g2.1 g2.2
    have e2 := g3 z (S.left z hzm) h2.1 h2.2
    rw [S.ok.2.1 y (S.sub y hm) z h1 (by omega)]
    exact ⟨rfl, rfl⟩
  · have hcv : c.valid = v := by have := g2.2; rw [e] at this; exact this
    have hce := (mem_tellAllS.1 hc).2
    rw [hcv] at hce
    have eu : c.user = z.2.user := by rw [hce]; show (tellO v l).elim emp (fun y => y.2.user) = _; rw [hz]; rfl
    have en : c.name = z.2.name := by rw [hce]; show (tellO v l).elim emp (fun y => y.2.name) = _; rw [hz]; rfl
    show y.2.user = z.2.user ∧ y.2.name = z.2.name
    rw [e]
    exact ⟨eu, en⟩

theorem need_mail {l : List Itm} {k v u : Int} {x : Itm} (hk : k = 3 ∨ k = 4) (hb : bestR k v u l = some x) (ht : thereO l v = true) (h3 : hasO l 3 v u = true) (h5 : hasO l 5 v u = false) : needO l x = true := by
  obtain ⟨h1, h2, _⟩ := bestR_some hb
  unfold needO
  rw [if_neg (by rw [h2.1]; omega), if_neg (by rw [h2.1]; omega), if_neg (by rw [h2.1]; omega), h2.1, h2.2.1, h2.2.2, hb, ht, h3, h5]
  show (((true && true) && !false) && decide (x.1 = x.1)) = true
  simp
theorem need_gone {l : List Itm} {v u : Int} {x : Itm} (hb : bestR 5 v u l = some x) (ht : thereO l v = true) (h3 : hasO l 3 v u = true) : needO l x = true := by
  obtain ⟨h1, h2, _⟩ := bestR_some hb
  unfold needO
  rw [if_neg (by rw [h2.1]; decide), if_neg (by rw [h2.1]; decide), if_pos h2.1, h2.2.1, h2.2.2, hb, ht, h3]
  show ((true && true) && decide (x.1 = x.1)) = true
  simp

theorem Shr.uids (S : Shr l m q) {v : Int} (hv : v ∈ upOf (validK l) l) (n : Int) : n ∈ upOf (uidK v q) q ↔ n ∈ upOf (uidK v l) l := by
  have ht := there_ofS S.ok hv
  rw [mem_uids, mem_uids]
  constructor
  · rintro ⟨⟨x, hx, a, b, c⟩, h⟩
    have hxl : x ∈ l := S.old hx (by rw [a]; decide)
    refine ⟨⟨x, hxl, a, b, c⟩, ?_⟩
    cases hb : bestR 5 v n l with
    | none => rfl
    | some y =>
      obtain ⟨z, hz⟩ := bestR_there hxl ⟨a, b, c⟩
      have := S.keep (by decide) hb (S.stay y (bestR_some hb).1 (need_gone hb ht (has_of hz)))
      rw [this] at h
      cases h
  · rintro ⟨⟨x, hx, a, b, c⟩, h⟩
    obtain ⟨z, hz⟩ := bestR_there hx ⟨a, b, c⟩
    obtain ⟨h1, h2, _⟩ := bestR_some hz
    have hzm : z ∈ m := S.stay z h1 (need_mail (.inl rfl) hz ht (has_of hz) (has_not h))
    exact ⟨⟨z, S.left z hzm, h2⟩, S.none (by decide) h⟩
theorem Shr.mails (S : Shr l m q) {v : Int} (hv : v ∈ upOf (validK l) l) : mailsOf v q = mailsOf v l := by
  have ht := there_ofS S.ok hv
  unfold mailsOf
  rw [up_same (upOf_up (uidK v q) q) (upOf_up (uidK v l) l) (S.uids hv)]
  apply List.map_congr_left
  intro n hn
  obtain ⟨⟨x, hx, a, b, c⟩, h⟩ := mem_uids.1 hn
  obtain ⟨z, hz⟩ := bestR_there hx ⟨a, b, c⟩
  have hzm : z ∈ m := S.stay z (bestR_some hz).1 (need_mail (.inl rfl) hz ht (has_of hz) (has_not h))
  have e3 := S.keep (by decide) hz hzm
  have e4 : bestR 4 v n q = bestR 4 v n l := by
    cases hb : bestR 4 v n l with
    | none => exact S.none (by decide) hb
    | some f => exact S.keep (by decide) hb (S.stay f (bestR_some hb).1 (need_mail (.inr rfl) hb ht (has_of hz) (has_not h)))
  unfold mailK
  rw [e3, e4, hz]
/-- All is told the same. -/
theorem Shr.tell (S : Shr l m q) : tellAll q = tellAll l := by
  unfold tellAll
  rw [up_same (upOf_up (validK q) q) (upOf_up (validK l) l) S.valids]
  apply List.map_congr_left
  intro v hv
  unfold boxK
  rw [(S.words hv).1, (S.words hv).2, S.next hv, S.mails hv]

end Go.Proofs.YtahebgceoidebaaGreat

/- What is shrunk is right, and tells the same. -/
namespace Go.Proofs.YtahebgceoidebaaGreat

theorem moreT_mem {M : List Rc} {seq : Int} : ∀ (n : Nat) (x : Itm), x ∈ moreT M seq n → ∃ i : Nat, i < n ∧ M[i]? = some x.2 ∧ x.1 = IntKind.i64.wrap (seq + (i : Int))
  | 0, x, h => by cases h
  | n + 1, x, h => by
    rcases List.mem_append.1 h with h | h
    · obtain ⟨i, h1, h2⟩ := moreT_mem n x h
      exact ⟨i, by omega, h2⟩
    · cases hm : M[n]? with
      | none => rw [hm] at h; cases h
      | some r =>
        rw [hm] at h
        simp at h
        subst h
        exact ⟨n, by omega, hm, rfl⟩
theorem moreT_has {M : List Rc} {seq : Int} : ∀ (n i : Nat) (r : Rc), i < n → M[i]? = some r → (IntKind.i64.wrap (seq + (i : Int)), r) ∈ moreT M seq n
  | 0, i, r, h, _ => by omega
  | n + 1, i, r, h, hr => by
    show _ ∈ moreT M seq n ++ _
    by_cases c : i < n
    · exact List.mem_append_left _ (moreT_has n i r c hr)
    · have e : i = n := by omega
      subst e
      refine List.mem_append_right _ ?_
      rw [hr]
      simp

theorem box_right {l : List Itm} (ok : itemsOk l) {b : Bx} (hb : b ∈ tellAll l) : (nxR b).ok := by
  obtain ⟨hv, hbe⟩ := mem_tellAllS.1 hb
  obtain ⟨⟨x, hx, a1, a2⟩, h⟩ := mem_validsS.1 hv
  obtain ⟨z, hz⟩ := tellO_thereS hx ⟨a1, a2⟩
  obtain ⟨h1, h2, h3⟩ := tellO_someS hz
  have zok := (ok.1 z h1).2
  have hz3 := zok.2.2.1
  rw [if_pos h2.1] at hz3
  have eu : b.user = z.2.user := by rw [hbe]; show (tellO b.valid l).elim emp (fun y => y.2.user) = _; rw [hz]; rfl
  have en : b.name = z.2.name := by rw [hbe]; show (tellO b.valid l).elim emp (fun y => y.2.name) = _; rw [hz]; rfl
  have ev : 1 ≤ b.valid ∧ b.valid ≤ 9999 := by rw [← h2.2]; exact zok.2.1
  have ex : 1 ≤ b.next ∧ b.next ≤ 10000 := by
    have e9 : b.next = nextOf b.valid l := by rw [hbe]; rfl
    rw [e9]
    obtain ⟨c1, c2, c3⟩ := mostFold (nextK b.valid) l 1
    unfold nextOf mostOf
    refine ⟨c1, ?_⟩
    rcases c3 with e | ⟨y, hy, e⟩
    · rw [e]; decide
    · rw [e]
      obtain ⟨s1, s2, s3, s4, _⟩ := Rc.ok_small (ok.1 y hy).2
      unfold nextK
      split
      · split
        · exact s4.2
        · split
          · omega
          · decide
      · decide
  unfold Rc.ok nxR
  refine ⟨by simp only; decide, ev, ?_, ?_, ?_, ?_⟩
  · rw [if_pos rfl, eu, en]
    exact ⟨hz3.1, hz3.2.1, ex⟩
  · rw [if_neg (by simp only; decide)]
  · rw [if_neg (by simp only; decide)]
  · rw [if_neg (by simp only; decide)]; rfl

theorem tellAll_len (l : List Itm) : (tellAll l).length ≤ l.length := by
  unfold tellAll
  rw [List.length_map]
  exact upOf_all (validK l) l

/-- What is shrunk. -/
theorem shr_right {l : List Itm} {d : List Bool} {seq : Int} (ok : itemsOk l) (hs : ∀ x ∈ l, x.1 < seq) (hlen : l.length + (tellAll l).length ≤ 200) (h1 : 1 ≤ seq) (h2 : seq ≤ 1000000) :
    itemsOk (shr l d seq) ∧ tellAll (shr l d seq) = tellAll l ∧ (∀ x ∈ shr l d seq, x.1 ≤ seq + ((tellAll l).length : Int)) ∧ (shr l d seq).length ≤ l.length + (tellAll l).length := by
  have okm : itemsOk (wo l (goL l d)) := ⟨fun x hx => ok.1 x (woT_mem hx), fun x hx y hy => ok.2.1 x (woT_mem hx) y (woT_mem hy), Nat.le_trans (wo_len _ _) ok.2.2⟩
  have e1 : stateL l = tellAll l := if_pos ok
  have e2 : stateL (wo l (goL l d)) = tellAll (wo l (goL l d)) := if_pos okm
  obtain ⟨M, hM⟩ : ∃ M, nxs (tellAll (wo l (goL l d))) (tellAll l) = M := ⟨_, rfl⟩
  have hMl : M.length ≤ (tellAll l).length := by rw [← hM]; exact nxs_len _ _
  have hMm : ∀ r ∈ M, ∃ b ∈ tellAll l, toldB (tellAll (wo l (goL l d))) b = false ∧ r = nxR b := fun r hr => by
    rw [← hM] at hr
    unfold nxs at hr
    obtain ⟨b, hb, rfl⟩ := List.mem_map.1 hr
    obtain ⟨hb1, hb2⟩ := List.mem_filter.1 hb
    exact ⟨b, hb1, by simpa using hb2, rfl⟩
  have hMh : ∀ b ∈ tellAll l, toldB (tellAll (wo l (goL l d))) b = false → nxR b ∈ M := fun b hb ht => by
    rw [← hM]
    unfold nxs
    exact List.mem_map_of_mem (List.mem_filter.2 ⟨hb, by rw [ht]; rfl⟩)
  have eq : shr l d seq = wo l (goL l d) ++ moreT M seq M.length := by unfold shr; rw [e1, e2, hM]
  have hw : ∀ i : Nat, i < M.length → IntKind.i64.wrap (seq + (i : Int)) = seq + (i : Int) := fun i hi => IntWalk.i64_in _ ⟨by omega, by omega⟩
  have hmem : ∀ x ∈ shr l d seq, x ∈ wo l (goL l d) ∨ ∃ i : Nat, i < M.length ∧ M[i]? = some x.2 ∧ x.1 = seq + (i : Int) := fun x hx => by
    rw [eq] at hx
    rcases List.mem_append.1 hx with h | h
    · exact .inl h
    · obtain ⟨i, g1, g2, g3⟩ := moreT_mem _ x h
      exact .inr ⟨i, g1, g2, by rw [g3, hw i g1]⟩
  have hlq : (shr l d seq).length ≤ l.length + (tellAll l).length := by
    rw [eq, List.length_append, moreT_len _ (Nat.le_refl _)]
    have := wo_len l (goL l d)
    omega
  have okq : itemsOk (shr l d seq) := by
    refine ⟨fun x hx => ?_, fun x hx y hy e => ?_, by omega⟩
    · rcases hmem x hx with h | ⟨i, g1, g2, g3⟩
      · exact okm.1 x h
      · obtain ⟨b, hb, _, er⟩ := hMm x.2 (List.mem_of_getElem? g2)
        refine ⟨by omega, ?_⟩
        rw [er]
        exact box_right ok hb
    · rcases hmem x hx with h | ⟨i, g1, g2, g3⟩
      · rcases hmem y hy with h' | ⟨j, k1, k2, k3⟩
        · exact okm.2.1 x h y h' e
        · have := hs x (woT_mem h); omega
      · rcases hmem y hy with h' | ⟨j, k1, k2, k3⟩
        · have := hs y (woT_mem h'); omega
        · have hij : i = j := by omega
          subst hij
          rw [g2] at k2
          exact Prod.ext e (Option.some.inj k2)
  have S : Shr l (wo l (goL l d)) (shr l d seq) := by
    refine ⟨ok, okm, fun x hx => woT_mem hx, fun x hx hn => stays ok hx hn, fun x hx => by rw [eq]; exact List.mem_append_left _ hx, fun x hx => ?_, fun b hb ht => ?_⟩
    · rcases hmem x hx with h | ⟨i, g1, g2, g3⟩
      · exact .inl h
      · obtain ⟨b, hb, _, er⟩ := hMm x.2 (List.mem_of_getElem? g2)
        exact .inr ⟨b, hb, er⟩
    · obtain ⟨i, hi⟩ := List.mem_iff_getElem?.1 (hMh b hb ht)
      have hil := (List.getElem?_eq_some_iff.1 hi).1
      refine ⟨(IntKind.i64.wrap (seq + (i : Int)), nxR b), ?_, rfl⟩
      rw [eq]
      exact List.mem_append_right _ (moreT_has M.length i (nxR b) hil hi)
  refine ⟨okq, S.tell, fun x hx => ?_, hlq⟩
  rcases hmem x hx with h | ⟨i, g1, g2, g3⟩
  · have := hs x (woT_mem h); omega
  · omega
theorem shr_state {l : List Itm} {d : List Bool} {seq : Int} (ok : itemsOk l) (hs : ∀ x ∈ l, x.1 < seq) (hlen : l.length + (tellAll l).length ≤ 200) (h1 : 1 ≤ seq) (h2 : seq ≤ 1000000) : stateL (shr l d seq) = stateL l := by
  obtain ⟨a, b, _⟩ := shr_right (d := d) ok hs hlen h1 h2
  unfold stateL
  rw [if_pos a, if_pos ok, b]

end Go.Proofs.YtahebgceoidebaaGreat

/- The cursor of a draw: what spec.l01Byte, l01Below, l01Once, l01Text, l01Long and l01New hand back: numbers in their ranges, whatever the bytes are. -/
namespace Go.Proofs.YtahebgceoidebaaGreat
open Go.RowKit

theorem i64_and255 (n : Int) : bits .and .i64 n 255 = n % 256 := by
  have h1 : (BitVec.ofInt 64 n &&& BitVec.ofInt 64 255).toNat = (BitVec.ofInt 64 n).toNat % 256 := by
    rw [BitVec.toNat_and]
    have e : (BitVec.ofInt 64 255).toNat = 2 ^ 8 - 1 := by decide
    rw [e, Nat.and_two_pow_sub_one_eq_mod]
  show IntKind.i64.wrap ((BitVec.ofInt 64 n &&& BitVec.ofInt 64 255).toNat : Int) = _
  rw [h1, BitVec.toNat_ofInt, IntWalk.i64_in _ ⟨by omega, by omega⟩]
  omega

/-- The bytes of a code can be read, and lie outside the block pc. -/
def Code (w : World) (pc : Nat) (a : Option Addr) (len : Nat) : Prop :=
  ∀ j, j < len → ∃ b off : Nat, a = some ⟨b, off, none⟩ ∧ b ≠ pc ∧ ∃ x : Nat, x < 256 ∧ w.cell? ⟨b, off + j, none⟩ = some (.int .u8 (x : Int))

/-- A cursor in the block pc over a code of len bytes. -/
structure Cur (w : World) (pc : Nat) (a : Option Addr) (len cap : Nat) : Prop where
  blk : ∃ i h : Int, w.heap[pc]? = some (.cells #[.slice a len cap, .int .i64 i, .int .i64 h] 84 (0, 0)) ∧ 0 ≤ i ∧ i ≤ len ∧ (-9223372036854775808 ≤ h ∧ h ≤ 9223372036854775807)
  code : Code w pc a len
  small : len ≤ 1048576

theorem lt_of_heap {w : World} {g : Nat} {o : Obj} (hg : w.heap[g]? = some o) : g < w.heap.size := by
  by_cases hh : g < w.heap.size
  · exact hh
  · rw [Array.getElem?_eq_none (by omega)] at hg; cases hg

theorem Code.grown {w w' : World} {pc : Nat} {a : Option Addr} {len : Nat} (h : Code w pc a len) (hg : w.grownBy w' (some pc)) : Code w' pc a len := by
  intro j hj
  obtain ⟨b, off, ha, hb, x, hx, hc⟩ := h j hj
  exact ⟨b, off, ha, hb, x, hx, hg.cell hc (fun e => hb (Option.some.inj e))⟩

/-- What a draw of one byte leaves. -/
def ByteR (pc : Nat) (a : Option Addr) (len cap : Nat) (w : World) (e : Ending) (w' : World) : Prop :=
  ∃ x : Nat, x < 256 ∧ e = .returned (.int .i64 (x : Int)) ∧ Cur w' pc a len cap ∧ w.grownBy w' (some pc)

theorem grownBy_setCell (w : World) (pc i : Nat) (v : Value) : w.grownBy (w.setCell ⟨pc, i, none⟩ v) (some pc) :=
  have b := (Below.refl 0 w).setCell (p := ⟨pc, i, none⟩) (Nat.zero_le _) v
  ⟨b.os, b.tape, b.output, b.size, fun k _ hne => Below.heap_setCell w _ _ _ (fun e => hne (by rw [e]))⟩

theorem grownBy_drewN (w : World) (n : Nat) (r : Option Nat) : w.grownBy (w.drewN n) r := ⟨rfl, rfl, rfl, Nat.le_refl _, fun _ _ _ => rfl⟩

theorem wrap64_range (n : Int) : -9223372036854775808 ≤ wrap64 n ∧ wrap64 n ≤ 9223372036854775807 := by
  unfold wrap64; omega

set_option maxRecDepth 100000 in
set_option maxHeartbeats 2000000 in
theorem byte_any (pc : Nat) (a : Option Addr) (len cap : Nat) (w : World) (hc : Cur w pc a len cap) :
    Calls Tryz.prog 30 #[.pointer (some ⟨pc, 0, none⟩)] w fun e w' => ByteR pc a len cap w e w' := by
  obtain ⟨i, h, hblk, hi0, hi1, hh1, hh2⟩ := hc.blk
  have hcode := hc.code
  have hsm := hc.small
  have c0 : w.cell? ⟨pc, 0, none⟩ = some (.slice a len cap) := by rw [Joins.cell_of_block hblk]; rfl
  have c1 : w.cell? ⟨pc, 1, none⟩ = some (.int .i64 i) := by rw [Joins.cell_of_block hblk]; rfl
  have c2 : w.cell? ⟨pc, 2, none⟩ = some (.int .i64 h) := by rw [Joins.cell_of_block hblk]; rfl
  have f1 : w.frozen? ⟨pc, 1, none⟩ = false := Joins.unfrozen_of_block hblk 1
  have f2 : w.frozen? ⟨pc, 2, none⟩ = false := Joins.unfrozen_of_block hblk 2
  go_enter Tryz.func30, Tryz.ntmps30
  go_wp2
  have hHb := wrap64_range (wrap64 (h * 6364136223846793005) + 1442695040888963407)
  generalize wrap64 (wrap64 (h * 6364136223846793005) + 1442695040888963407) = H at hHb ⊢
  have hg1 := grownBy_setCell w pc 2 (.int .i64 H)
  have hblk1 : (w.setCell ⟨pc, 2, none⟩ (.int .i64 H)).heap[pc]? = some (.cells #[.slice a len cap, .int .i64 i, .int .i64 H] 84 (0, 0)) := Joins.block_setCell hblk _
  have hcode1 := hcode.grown hg1
  clear c0 c1 c2 f1 f2
  generalize w.setCell ⟨pc, 2, none⟩ (.int .i64 H) = w1 at *
  have c0 : w1.cell? ⟨pc, 0, none⟩ = some (.slice a len cap) := by rw [Joins.cell_of_block hblk1]; rfl
  have c1 : w1.cell? ⟨pc, 1, none⟩ = some (.int .i64 i) := by rw [Joins.cell_of_block hblk1]; rfl
  have c2 : w1.cell? ⟨pc, 2, none⟩ = some (.int .i64 H) := by rw [Joins.cell_of_block hblk1]; rfl
  have f1 : w1.frozen? ⟨pc, 1, none⟩ = false := Joins.unfrozen_of_block hblk1 1
  have HB : Hid (w1.heap[pc]? = some (.cells #[.slice a len cap, .int .i64 i, .int .i64 H] 84 (0, 0))) := hblk1
  have HC : Hid (Code w1 pc a len) := hcode1
  clear hblk1 hblk hcode1 hcode hc
  go_quiet (fail)
  go_wp2
  rw [i64_and255]
  have hx0 : 0 ≤ bits .xor .i64 (H / 8589934592) (H / 35184372088832) % 256 ∧ bits .xor .i64 (H / 8589934592) (H / 35184372088832) % 256 < 256 := by omega
  generalize bits .xor .i64 (H / 8589934592) (H / 35184372088832) % 256 = x at hx0 ⊢
  obtain ⟨hx1, hx2⟩ := hx0
  by_cases hlt : i < (len : Int)
  · have hij : i.toNat < len := by omega
    obtain ⟨b, off, rfl, hbne, y, hy, hcy⟩ := HC.out i.toNat hij
    obtain ⟨k, rfl⟩ := Int.eq_ofNat_of_zero_le hi0
    rw [Int.toNat_natCast] at hcy
    go_quiet (fail)
    go_wp2
    go_quiet (fail)
    go_wp2
    rw [i64_and255]
    go_ret
    have hg2 := fun n => (grownBy_drewN w1 n (some pc)).trans (grownBy_setCell _ pc 1 (.int .i64 ((k : Int) + 1)))
    exact ⟨((x + (y : Int)) % 256).toNat, by omega, by rw [Int.toNat_of_nonneg (by omega)]; rfl,
      ⟨⟨(k : Int) + 1, H, Joins.block_setCell HB.out _, by omega, by omega, hHb⟩, HC.out.grown (hg2 _), hsm⟩, hg1.trans (hg2 _)⟩
  · go_quiet (fail)
    go_wp2
    go_ret
    have hg2 := fun n => grownBy_drewN w1 n (some pc)
    exact ⟨x.toNat, by omega, by rw [Int.toNat_of_nonneg (by omega)]; rfl, ⟨⟨i, H, HB.out, by omega, by omega, hHb⟩, HC.out.grown (hg2 _), hsm⟩, hg1.trans (hg2 _)⟩

theorem ByteR.after {pc : Nat} {a : Option Addr} {len cap : Nat} {w0 w w' : World} {e : Ending} (h0 : w0.grownBy w (some pc)) (h : ByteR pc a len cap w e w') :
    ∃ x : Nat, x < 256 ∧ e = .returned (.int .i64 (x : Int)) ∧ Cur w' pc a len cap ∧ w0.grownBy w' (some pc) := by
  obtain ⟨x, hx, he, hc, hg⟩ := h
  exact ⟨x, hx, he, hc, h0.trans hg⟩

/-- What a draw of a number below n leaves. -/
def BelowR (n : Int) (pc : Nat) (a : Option Addr) (len cap : Nat) (w : World) (e : Ending) (w' : World) : Prop :=
  ∃ x : Nat, (0 < n → (x : Int) < n) ∧ (n ≤ 0 → x = 0) ∧ e = .returned (.int .i64 (x : Int)) ∧ Cur w' pc a len cap ∧ w.grownBy w' (some pc)

set_option maxRecDepth 100000 in
set_option maxHeartbeats 1000000 in
theorem below_any (n : Int) (pc : Nat) (a : Option Addr) (len cap : Nat) (w : World) (hc : Cur w pc a len cap) (hn : n ≤ 9223372036854775807) :
    Calls Tryz.prog 31 #[.pointer (some ⟨pc, 0, none⟩), .int .i64 n] w fun e w' => BelowR n pc a len cap w e w' := by
  by_cases h0 : n ≤ 0
  · go_enter Tryz.func31, Tryz.ntmps31
    go_wp2
    go_ret
    exact ⟨0, by omega, by omega, rfl, hc, World.grownBy.refl _ _⟩
  · by_cases h1 : n ≤ 256
    · go_enter Tryz.func31, Tryz.ntmps31
      go_wp2_with (go_at_call 30; refine (byte_any pc a len cap _ hc).mono ?_; rintro e w1 ⟨x, hx, rfl, hc1, hg1⟩)
      go_ret
      have hm1 := Int.emod_nonneg (x : Int) (show n ≠ 0 by omega)
      have hm2 := Int.emod_lt_of_pos (x : Int) (show 0 < n by omega)
      exact ⟨((x : Int) % n).toNat, by omega, by omega, by rw [Int.toNat_of_nonneg hm1]; rfl, hc1, hg1⟩
    · go_enter Tryz.func31, Tryz.ntmps31
      go_wp2_with fail
      refine (byte_any pc a len cap _ hc).mono ?_
      rintro e w1 ⟨x, hx, rfl, hc1, hg1⟩
      go_wp2_with fail
      refine (byte_any pc a len cap _ hc1).mono ?_
      rintro e w2 ⟨y, hy, rfl, hc2, hg2⟩
      go_wp2_with fail
      refine (byte_any pc a len cap _ hc2).mono ?_
      rintro e w3 ⟨z, hz, rfl, hc3, hg3⟩
      go_wp2_with fail
      refine (byte_any pc a len cap _ hc3).mono ?_
      rintro e w4 ⟨u, hu, rfl, hc4, hg4⟩
      go_wp2
      go_ret
      have hg : w.grownBy w4 (some pc) := ((hg1.trans hg2).trans hg3).trans hg4
      generalize hX : (x : Int) * 16777216 + (y : Int) * 65536 + (z : Int) * 256 + (u : Int) = X
      have hX0 : 0 ≤ X := by omega
      have hm1 := Int.emod_nonneg X (show n ≠ 0 by omega)
      have hm2 := Int.emod_lt_of_pos X (show 0 < n by omega)
      exact ⟨(X % n).toNat, by omega, by omega, by rw [Int.toNat_of_nonneg hm1, ← hX]; rfl, hc4, hg⟩

theorem once_any (n : Int) (pc : Nat) (a : Option Addr) (len cap : Nat) (w : World) (hc : Cur w pc a len cap) (hn : n ≤ 9223372036854775807) :
    Calls Tryz.prog 51 #[.pointer (some ⟨pc, 0, none⟩), .int .i64 n] w fun e w' => (e = .returned (.bool true) ∨ e = .returned (.bool false)) ∧ Cur w' pc a len cap ∧ w.grownBy w' (some pc) := by
  go_enter Tryz.func51, Tryz.ntmps51
  go_wp2_with (go_at_call 31; refine (below_any n pc a len cap _ hc hn).mono ?_; rintro e w1 ⟨x, hx, hx2, rfl, hc1, hg1⟩)
  go_ret
  refine ⟨?_, hc1, hg1⟩
  by_cases h0 : x = 0
  · left; rw [h0]; rfl
  · right
    have : ((x : Int) == 0) = false := beq_eq_false_iff_ne.2 (by omega)
    show Ending.returned (.bool ((x : Int) == 0)) = _
    rw [this]

end Go.Proofs.YtahebgceoidebaaGreat
