/- Texts of our own, joined. -/
import Derived.Test.YtlifgcgoehkinaaGreatDoorJi
import Derived.Test.YtlifgcgoehkinaaGreatDoorJx
import Derived.Test.YtlifgcgoehkinaaGreatDoorJbx
/- The closures of wantedByKind. -/
namespace Go.Proofs.YtlifgcgoehkinaaGreatDoor
open Go.RowKit

def inN (x : Nat) : Value := .int .i64 (x : Int)
theorem inN_inj (x y : Nat) (h : inN x = inN y) : x = y := by unfold inN at h; simp at h; omega
def boxO (f : Int × Int × Int → Option Nat) (v : Int) : Bool := (f (1, v, 0)).isSome && !(f (2, v, 0)).isSome
def addO (f : Int × Int × Int → Option Nat) (v u : Int) : Bool := boxO f v && (f (3, v, u)).isSome
def mailO (f : Int × Int × Int → Option Nat) (v u : Int) : Bool := addO f v u && !(f (5, v, u)).isSome

structure Wn (w : World) (gM n : Nat) (f : Int × Int × Int → Option Nat) (v : Value) (l : List Itm) (g2 g3 g5 g6 g7 : Nat) : Prop where
  map : MapIs sjK inN w gM n f
  c2 : w.cell? ⟨g2, 0, none⟩ = some v
  c3 : w.cell? ⟨g3, 0, none⟩ = some (.map (some gM))
  c5 : w.cell? ⟨g5, 0, none⟩ = some (.func (.func 84) #[] #[.pointer (some ⟨g3, 0, none⟩)])
  c6 : w.cell? ⟨g6, 0, none⟩ = some (.func (.func 85) #[] #[.pointer (some ⟨g5, 0, none⟩)])
  c7 : w.cell? ⟨g7, 0, none⟩ = some (.func (.func 86) #[] #[.pointer (some ⟨g6, 0, none⟩), .pointer (some ⟨g5, 0, none⟩)])
  rows : Rows' itE w v l
theorem Wn.later {w w' : World} {gM n g2 g3 g5 g6 g7 : Nat} {f : Int × Int × Int → Option Nat} {v : Value} {l : List Itm} (h : Wn w gM n f v l g2 g3 g5 g6 g7) (hb : Below w.heap.size w w') : Wn w' gM n f v l g2 g3 g5 g6 g7 :=
  have k : ∀ {g : Nat} {u : Value}, w.cell? ⟨g, 0, none⟩ = some u → w'.cell? ⟨g, 0, none⟩ = some u := fun {g _} hc => (hb.cell (p := ⟨g, 0, none⟩) (World.block_lt_of_cell? _ _ hc)).trans hc
  ⟨h.map.later hb, k h.c2, k h.c3, k h.c5, k h.c6, k h.c7, h.rows.later hb⟩

theorem zero_intN (w : World) : (zeroValue 3).run Tryz.prog w = .ok (.int .i64 0) w := by kernel_rfl

theorem sj_ok {k v u : Int} (h1 : 0 ≤ k ∧ k ≤ 9999) (h2 : 0 ≤ v ∧ v ≤ 9999) (h3 : 0 ≤ u ∧ u ≤ 9999) : sjK.ok (k, v, u) := ⟨wf_of (x := k) (by omega) (by omega), wf_of (x := v) (by omega) (by omega), wf_of (x := u) (by omega) (by omega)⟩

set_option maxRecDepth 100000 in
theorem told_any (kk vv uu : Int) (w : World) (gM n g3 : Nat) (f : Int × Int × Int → Option Nat) (hm : MapIs sjK inN w gM n f) (h3 : w.cell? ⟨g3, 0, none⟩ = some (.map (some gM))) (hok : sjK.ok (kk, vv, uu)) :
    Calls Tryz.prog 84 #[.int .i64 kk, .int .i64 vv, .int .i64 uu, .pointer (some ⟨g3, 0, none⟩)] w fun e w' => e = .returned (.bool (f (kk, vv, uu)).isSome) ∧ w = w' := by
  cases hf : f (kk, vv, uu) with
  | none =>
    have hlk : (Instr.lookup 113 (.map (some gM)) (.agg #[.int .i64 kk, .int .i64 vv, .int .i64 uu]) true).run Tryz.prog w = .ok (.tuple #[.int .i64 0, .bool false]) w := hm.look_gone (t := 113) Tryz.underlying113 (zero_intN w) hok hf true
    clear hm hf
    go_enter Tryz.func84, Tryz.ntmps84
    go_wp2
    go_ret
    exact ⟨rfl, rfl⟩
  | some c =>
    have hlk : (Instr.lookup 113 (.map (some gM)) (.agg #[.int .i64 kk, .int .i64 vv, .int .i64 uu]) true).run Tryz.prog w = .ok (.tuple #[.int .i64 (c : Int), .bool true]) w := hm.look_there (t := 113) Tryz.underlying113 (zero_intN w) hok hf true
    clear hm hf
    go_enter Tryz.func84, Tryz.ntmps84
    go_wp2
    go_ret
    exact ⟨rfl, rfl⟩

set_option maxRecDepth 100000 in
set_option maxHeartbeats 1000000 in
theorem boxThere_any (r : Rc) (w : World) {gM n g2 g3 g5 g6 g7 : Nat} {f : Int × Int × Int → Option Nat} {v : Value} {l : List Itm} (h : Wn w gM n f v l g2 g3 g5 g6 g7) (hv : 1 ≤ r.valid ∧ r.valid ≤ 9999) :
    Calls Tryz.prog 85 #[r.v, .pointer (some ⟨g5, 0, none⟩)] w fun e w' => e = .returned (.bool (boxO f r.valid)) ∧ Below w.heap.size w w' := by
  have b1 := belNew w (.cells r.cs 66)
  have hx := (Box.new w r.cs 66).rec
  have h' := h.later b1
  have T1 := Lib.hid (told_any 1 r.valid 0 _ gM n g3 f h'.map h'.c3 (sj_ok (by omega) (by omega) (by omega)))
  have T2 := Lib.hid (told_any 2 r.valid 0 _ gM n g3 f h'.map h'.c3 (sj_ok (by omega) (by omega) (by omega)))
  have HE : Hid (boxO f r.valid = ((f (1, r.valid, 0)).isSome && !(f (2, r.valid, 0)).isSome)) := by show _ = _; rfl
  have c5 := h'.c5
  generalize (f (1, r.valid, 0)).isSome = A at T1 HE
  generalize (f (2, r.valid, 0)).isSome = B at T2 HE
  obtain ⟨_, x1, _⟩ := hx
  obtain ⟨K, V, U, N, FL, US, NM, TX⟩ := r
  unfold Rc.v
  unfold Rc.cs at *
  simp only at *
  clear h h'
  cases A with
  | false =>
    go_enter Tryz.func85, Tryz.ntmps85
    go_wp2_with (go_at_call 84; refine T1.out.mono ?_; rintro e w1 ⟨rfl, rfl⟩)
    go_ret
    exact ⟨by rw [HE.out]; rfl, b1⟩
  | true =>
    go_enter Tryz.func85, Tryz.ntmps85
    go_wp2_with (first | (go_at_call 84; with_reducible refine T1.out.mono ?_; rintro e w1 ⟨rfl, rfl⟩) | (go_at_call 84; with_reducible refine T2.out.mono ?_; rintro e w1 ⟨rfl, rfl⟩))
    go_ret
    exact ⟨by rw [HE.out]; first | rfl | (cases B <;> rfl), b1⟩

set_option maxRecDepth 100000 in
set_option maxHeartbeats 1000000 in
theorem addedThere_any (r : Rc) (w : World) {gM n g2 g3 g5 g6 g7 : Nat} {f : Int × Int × Int → Option Nat} {v : Value} {l : List Itm} (h : Wn w gM n f v l g2 g3 g5 g6 g7) (hv : 1 ≤ r.valid ∧ r.valid ≤ 9999) (hu : 0 ≤ r.uid ∧ r.uid ≤ 9999) :
    Calls Tryz.prog 86 #[r.v, .pointer (some ⟨g6, 0, none⟩), .pointer (some ⟨g5, 0, none⟩)] w fun e w' => e = .returned (.bool (addO f r.valid r.uid)) ∧ Below w.heap.size w w' := by
  have b1 := belNew w (.cells r.cs 66)
  have hx := Box.new w r.cs 66
  have h' := h.later b1
  have T1 := Lib.hid (boxThere_any r _ h' hv)
  have T2 := Lib.hid (fun x (hx : Below (w.alloc (.cells r.cs 66)).heap.size (w.alloc (.cells r.cs 66)) x) => told_any 3 r.valid r.uid x gM n g3 f (h'.later hx).map (h'.later hx).c3 (sj_ok (by omega) (by omega) (by omega)))
  have HC : Hid (∀ x, Below (w.alloc (.cells r.cs 66)).heap.size (w.alloc (.cells r.cs 66)) x → x.cell? ⟨g5, 0, none⟩ = some (.func (.func 84) #[] #[.pointer (some ⟨g3, 0, none⟩)]) ∧ x.cell? ⟨w.heap.size, 1, none⟩ = some (.int .i64 r.valid) ∧ x.cell? ⟨w.heap.size, 2, none⟩ = some (.int .i64 r.uid)) := fun x hx2 => ⟨(h'.later hx2).c5, (hx.later hx2).rec.2.1, (hx.later hx2).rec.2.2.1⟩
  have HE : Hid (addO f r.valid r.uid = (boxO f r.valid && (f (3, r.valid, r.uid)).isSome)) := by show _ = _; rfl
  have cC := h'.c6
  have c5 := h'.c5
  generalize boxO f r.valid = A at T1 HE
  generalize (f (3, r.valid, r.uid)).isSome = B at T2 HE
  obtain ⟨x0, x1, x2, x3, x4, x5, x6, x7⟩ := hx.rec
  obtain ⟨K, V, U, N, FL, US, NM, TX⟩ := r
  unfold Rc.v at T1 ⊢
  unfold Rc.cs at *
  simp only at *
  clear h h' hx
  cases A with
  | false =>
    go_enter Tryz.func86, Tryz.ntmps86
    go_wp2_with (go_at_call 85; refine T1.out.mono ?_; rintro e w1 ⟨rfl, k1⟩)
    go_ret
    exact ⟨by rw [HE.out]; rfl, b1.trans (k1.mono b1.size)⟩
  | true =>
    go_enter Tryz.func86, Tryz.ntmps86
    go_wp2_with (first | (go_at_call 85; refine T1.out.mono ?_; rintro e w1 ⟨rfl, k1⟩; obtain ⟨d5, d1, d2⟩ := HC.out _ k1) | (go_at_call 84; refine (T2.out _ k1).mono ?_; rintro e w2 ⟨rfl, rfl⟩))
    go_ret
    exact ⟨by rw [HE.out]; first | rfl | (cases B <;> rfl), b1.trans (k1.mono b1.size)⟩

set_option maxRecDepth 100000 in
set_option maxHeartbeats 1000000 in
theorem mailThere_any (r : Rc) (w : World) {gM n g2 g3 g5 g6 g7 : Nat} {f : Int × Int × Int → Option Nat} {v : Value} {l : List Itm} (h : Wn w gM n f v l g2 g3 g5 g6 g7) (hv : 1 ≤ r.valid ∧ r.valid ≤ 9999) (hu : 0 ≤ r.uid ∧ r.uid ≤ 9999) :
    Calls Tryz.prog 87 #[r.v, .pointer (some ⟨g7, 0, none⟩), .pointer (some ⟨g5, 0, none⟩)] w fun e w' => e = .returned (.bool (mailO f r.valid r.uid)) ∧ Below w.heap.size w w' := by
  have b1 := belNew w (.cells r.cs 66)
  have hx := Box.new w r.cs 66
  have h' := h.later b1
  have T1 := Lib.hid (addedThere_any r _ h' hv hu)
  have T2 := Lib.hid (fun x (hx : Below (w.alloc (.cells r.cs 66)).heap.size (w.alloc (.cells r.cs 66)) x) => told_any 5 r.valid r.uid x gM n g3 f (h'.later hx).map (h'.later hx).c3 (sj_ok (by omega) (by omega) (by omega)))
  have HC : Hid (∀ x, Below (w.alloc (.cells r.cs 66)).heap.size (w.alloc (.cells r.cs 66)) x → x.cell? ⟨g5, 0, none⟩ = some (.func (.func 84) #[] #[.pointer (some ⟨g3, 0, none⟩)]) ∧ x.cell? ⟨w.heap.size, 1, none⟩ = some (.int .i64 r.valid) ∧ x.cell? ⟨w.heap.size, 2, none⟩ = some (.int .i64 r.uid)) := fun x hx2 => ⟨(h'.later hx2).c5, (hx.later hx2).rec.2.1, (hx.later hx2).rec.2.2.1⟩
  have HE : Hid (mailO f r.valid r.uid = (addO f r.valid r.uid && !(f (5, r.valid, r.uid)).isSome)) := by show _ = _; rfl
  have cC := h'.c7
  have c5 := h'.c5
  generalize addO f r.valid r.uid = A at T1 HE
  generalize (f (5, r.valid, r.uid)).isSome = B at T2 HE
  obtain ⟨x0, x1, x2, x3, x4, x5, x6, x7⟩ := hx.rec
  obtain ⟨K, V, U, N, FL, US, NM, TX⟩ := r
  unfold Rc.v at T1 ⊢
  unfold Rc.cs at *
  simp only at *
  clear h h' hx
  cases A with
  | false =>
    go_enter Tryz.func87, Tryz.ntmps87
    go_wp2_with (go_at_call 86; refine T1.out.mono ?_; rintro e w1 ⟨rfl, k1⟩)
    go_ret
    exact ⟨by rw [HE.out]; rfl, b1.trans (k1.mono b1.size)⟩
  | true =>
    go_enter Tryz.func87, Tryz.ntmps87
    go_wp2_with (first | (go_at_call 86; refine T1.out.mono ?_; rintro e w1 ⟨rfl, k1⟩; obtain ⟨d5, d1, d2⟩ := HC.out _ k1) | (go_at_call 84; refine (T2.out _ k1).mono ?_; rintro e w2 ⟨rfl, rfl⟩))
    go_ret
    exact ⟨by rw [HE.out]; first | rfl | (cases B <;> rfl), b1.trans (k1.mono b1.size)⟩

def othB (rK rV : Int) (y : Itm) : Bool := decide (y.2.valid = rV ∧ y.2.kind ≠ rK)
set_option maxRecDepth 100000 in
set_option maxHeartbeats 1000000 in
theorem oth_any (x : Itm) (rK rV : Int) (gr : Nat) (w : World) (h0 : w.cell? ⟨gr, 0, none⟩ = some (.int .i64 rK)) (h1 : w.cell? ⟨gr, 1, none⟩ = some (.int .i64 rV)) :
    Calls Tryz.prog 90 #[itV x.1 x.2, .pointer (some ⟨gr, 0, none⟩)] w fun e w' => e = .returned (.bool (othB rK rV x)) ∧ Below w.heap.size w w' := by
  obtain ⟨sq, K, V, U, N, FL, US, NM, TX⟩ := x
  have HE : Hid (othB rK rV (sq, ⟨K, V, U, N, FL, US, NM, TX⟩) = decide (V = rV ∧ K ≠ rK)) := by show _ = _; rfl
  generalize othB rK rV (sq, ⟨K, V, U, N, FL, US, NM, TX⟩) = D at HE ⊢
  unfold itV
  simp only
  have b1 := belNew w (.cells #[.int .i64 sq, .int .i64 K, .int .i64 V, .int .i64 U, .int .i64 N, .int .i64 FL, .string US, .string NM, .string TX] 68)
  have l0 := World.block_lt_of_cell? _ _ h0
  have d0 := (b1.cell (p := ⟨gr, 0, none⟩) l0).trans h0
  have d1 := (b1.cell (p := ⟨gr, 1, none⟩) l0).trans h1
  clear h0 h1 l0
  by_cases hv : V = rV
  · subst hv
    by_cases hk : K = rK
    · subst hk
      have HD : Hid (D = false) := by rw [HE.out]; exact decide_eq_false (fun c => c.2 rfl)
      clear HE
      go_enter Tryz.func90, Tryz.ntmps90
      go_wp2
      go_ret
      exact ⟨by rw [HD.out]; rfl, b1⟩
    · have hk' : (K == rK) = false := beq_eq_false_iff_ne.2 hk
      have hk2 : (K != rK) = true := bne_iff_ne.2 hk
      have HD : Hid (D = true) := by rw [HE.out]; exact decide_eq_true ⟨rfl, hk⟩
      clear HE
      go_enter Tryz.func90, Tryz.ntmps90
      go_wp2
      go_ret
      exact ⟨by rw [HD.out]; first | rfl | simp [hk'], b1⟩
  · have hv' : (V == rV) = false := beq_eq_false_iff_ne.2 hv
    have HD : Hid (D = false) := by rw [HE.out]; exact decide_eq_false (fun c => hv c.1)
    clear HE
    go_enter Tryz.func90, Tryz.ntmps90
    go_wp2
    go_ret
    exact ⟨by rw [HD.out]; rfl, b1⟩

set_option maxRecDepth 100000 in
set_option maxHeartbeats 2000000 in
theorem indexFunc_any (l : List Itm) (v : Value) (rK rV : Int) (gr : Nat) (w : World) (h : Rows' itE w v l) (hl : l.length ≤ 1048576) (h0 : w.cell? ⟨gr, 0, none⟩ = some (.int .i64 rK)) (h1 : w.cell? ⟨gr, 1, none⟩ = some (.int .i64 rV)) :
    Calls Tryz.prog 104 #[v, .func (.func 90) #[] #[.pointer (some ⟨gr, 0, none⟩)]] w fun e w' => (∃ r : Int, e = .returned (.int .i64 r) ∧ ((0 ≤ r ∧ l.any (othB rK rV) = true) ∨ (¬ 0 ≤ r ∧ l.any (othB rK rV) = false))) ∧ Below w.heap.size w w' := by
  obtain ⟨ad, cap, rfl, hrow⟩ := h.items
  have HR := Lib.hid hrow
  clear h hrow
  obtain ⟨n, hn⟩ : ∃ n, l.length = n := ⟨_, rfl⟩
  rw [hn] at hl ⊢
  have HN := Lib.hid hn
  clear hn
  have l0 := World.block_lt_of_cell? _ _ h0
  have HO : Hid (∀ (y : Itm) x, Below w.heap.size w x → Calls Tryz.prog 90 #[itV y.1 y.2, .pointer (some ⟨gr, 0, none⟩)] x fun e w' => e = .returned (.bool (othB rK rV y)) ∧ Below x.heap.size x w') := fun y x hx => oth_any y rK rV gr x ((hx.cell (p := ⟨gr, 0, none⟩) l0).trans h0) ((hx.cell (p := ⟨gr, 1, none⟩) l0).trans h1)
  clear h0 h1 l0
  obtain ⟨Q, hQ⟩ : ∃ Q, l.any (othB rK rV) = Q := ⟨_, rfl⟩
  rw [hQ]
  have HQ := Lib.hid hQ
  clear hQ
  have F0 : Hid (∀ y ∈ l.take 0, othB rK rV y = false) := fun y hy => by simp at hy
  go_enter Tryz.func104, Tryz.ntmps104
  go_wp2
  go_loopw [8] (fun iv wr => ∃ i : Nat, i ≤ n ∧ iv = .int .i64 (i : Int) ∧ (∀ y ∈ l.take i, othB rK rV y = false) ∧ Below w.heap.size w wr) (fun iv _ => n - (intOf iv).toNat)
  case atStart => exact ⟨0, by omega, rfl, F0.out, Below.refl _ _⟩
  case round =>
    clear F0
    obtain ⟨i, hi, rfl, hno, bq⟩ := hrel
    by_cases hlt : i < n
    · obtain ⟨y, hgy⟩ : ∃ y, l[i]? = some y := ⟨_, List.getElem?_eq_getElem (by rw [HN.out]; omega)⟩
      obtain ⟨gp, op, rfl, p0, p1, p2, p3, p4, p5, p6, p7, p8⟩ := HR.out _ bq i y hgy
      have HOY := Lib.hid (HO.out y _ bq)
      have HNX : Hid (othB rK rV y = false → ∀ z ∈ l.take (i + 1), othB rK rV z = false) := fun hy z hz => by
        rw [List.take_add_one, hgy] at hz
        rcases List.mem_append.1 hz with h | h
        · exact hno z h
        · simp at h; rw [h]; exact hy
      have HFA : Hid (othB rK rV y = true → Q = true) := fun hy => by rw [← HQ.out]; exact List.any_eq_true.2 ⟨y, List.mem_of_getElem? hgy, hy⟩
      clear hgy hno
      generalize othB rK rV y = D at HOY HNX HFA
      obtain ⟨sq, K, V, U, N, FL, US, NM, TX⟩ := y
      unfold itV at HOY
      simp only at p0 p1 p2 p3 p4 p5 p6 p7 p8 HOY
      have hi0 : (0 : Int) ≤ (i : Int) := by omega
      have hi1 : (i : Int) < (n : Int) := by omega
      cases D with
      | true =>
        have HF := Lib.hid (HFA.out rfl)
        clear HFA HNX
        go_wp2_with (go_at_call 90; refine HOY.out.mono ?_; rintro e w1 ⟨rfl, k1⟩)
        go_ret
        exact ⟨⟨(i : Int), rfl, .inl ⟨hi0, HF.out⟩⟩, bq.trans (k1.mono bq.size)⟩
      | false =>
        have HN2 := Lib.hid (HNX.out rfl)
        clear HFA HNX
        go_wp2_with (go_at_call 90; refine HOY.out.mono ?_; rintro e w1 ⟨rfl, k1⟩)
        exact ⟨⟨i + 1, by omega, by simp, HN2.out, bq.trans (k1.mono bq.size)⟩, by first | omega | (simp [intOf]; omega)⟩
    · have HF : Hid (Q = false) := by
        rw [← HQ.out]
        show _ = false
        rw [List.any_eq_false]
        intro y hy
        rw [hno y (by rw [List.take_of_length_le (by rw [HN.out]; omega)]; exact hy)]
        exact Bool.false_ne_true
      clear hno
      go_wp2
      go_ret
      exact ⟨⟨-1, rfl, .inr ⟨by omega, HF.out⟩⟩, bq⟩

set_option maxRecDepth 100000 in
theorem containsFunc_any (l : List Itm) (v : Value) (rK rV : Int) (gr : Nat) (w : World) (h : Rows' itE w v l) (hl : l.length ≤ 1048576) (h0 : w.cell? ⟨gr, 0, none⟩ = some (.int .i64 rK)) (h1 : w.cell? ⟨gr, 1, none⟩ = some (.int .i64 rV)) :
    Calls Tryz.prog 89 #[v, .func (.func 90) #[] #[.pointer (some ⟨gr, 0, none⟩)]] w fun e w' => e = .returned (.bool (l.any (othB rK rV))) ∧ Below w.heap.size w w' := by
  have HI := Lib.hid (indexFunc_any l v rK rV gr w h hl h0 h1)
  obtain ⟨ad, cap, rfl, _⟩ := h.items
  clear h h0 h1
  go_enter Tryz.func89, Tryz.ntmps89
  go_wp2_with fail
  refine HI.out.mono ?_
  rintro e w1 ⟨⟨r, rfl, hr⟩, k1⟩
  clear HI
  rcases hr with ⟨hr, he⟩ | ⟨hr, he⟩
  · have HE := Lib.hid he
    clear he
    go_wp2
    go_ret
    exact ⟨by rw [HE.out]; first | rfl | simp [hr], k1⟩
  · have HE := Lib.hid he
    clear he
    go_wp2
    go_ret
    exact ⟨by rw [HE.out]; first | rfl | simp [hr], k1⟩

set_option maxRecDepth 100000 in
set_option maxHeartbeats 1000000 in
theorem othersThere_any (r : Rc) (w : World) {gM n g2 g3 g5 g6 g7 : Nat} {f : Int × Int × Int → Option Nat} {v : Value} {l : List Itm} (h : Wn w gM n f v l g2 g3 g5 g6 g7) (hl : l.length ≤ 1048576) :
    Calls Tryz.prog 88 #[r.v, .pointer (some ⟨g2, 0, none⟩)] w fun e w' => e = .returned (.bool (l.any (othB r.kind r.valid))) ∧ Below w.heap.size w w' := by
  have b1 := belNew w (.cells r.cs 66)
  have hx := (Box.new w r.cs 66).rec
  have h' := h.later b1
  have HCF := Lib.hid (containsFunc_any l v r.kind r.valid w.heap.size _ h'.rows hl hx.1 hx.2.1)
  have c2 := h'.c2
  obtain ⟨ad, cap, rfl, _⟩ := h.rows.items
  have hmf : ∀ (fn : Fn) (first cap : Array Value) (w : World), (Instr.makeFunc fn first cap).run Tryz.prog w = .ok (.func fn first cap) w := fun _ _ _ _ => rfl
  generalize l.any (othB r.kind r.valid) = D at HCF
  obtain ⟨K, V, U, N, FL, US, NM, TX⟩ := r
  unfold Rc.v
  unfold Rc.cs at *
  simp only at *
  clear h h' hx
  go_enter Tryz.func88, Tryz.ntmps88
  go_wp2_with (go_at_call 89; refine HCF.out.mono ?_; rintro e w1 ⟨rfl, k1⟩)
  go_ret
  exact ⟨rfl, b1.trans (k1.mono b1.size)⟩

end Go.Proofs.YtlifgcgoehkinaaGreatDoor
