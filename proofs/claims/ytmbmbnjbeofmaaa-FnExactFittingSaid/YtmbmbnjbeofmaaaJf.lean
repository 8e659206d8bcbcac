/- Texts of our own, joined. -/
import Derived.Test.YtmbmbnjbeofmaaaJe
import Derived.Test.YtmbmbnjbeofmaaaJa
import Derived.Shelf.SlSortCmp.WholeK
import Derived.Shelf.SlicesG.Cmp
import Derived.Test.YtmbmbnjbeofmaaaProg
import Derived.Test.YtmbmbnjbeofmaaaJd
import Derived.Lib.Hide
import Derived.WalkSmall
/- Fitting of the model. -/
namespace Go.Proofs.Ytmbmbnjbeofmaaa
open Go.RowKit
set_option linter.unusedVariables false

set_option maxRecDepth 100000 in
set_option maxHeartbeats 4000000 in
theorem specFit_bad (ps : List Bx) (va : Value) (nv : Int) (K V U N FL : Int) (US NM TX : ByteArray) (w : World) (ha : BRd w va ps) (hl : ps.length ≤ 1048576) (hm : ∀ b ∈ ps, b.mails.length ≤ 1048576 ∧ b.name.size ≤ 1048576) (s1 : US.size ≤ 1048576) (s2 : NM.size ≤ 1048576) (s3 : TX.size ≤ 1048576) (hok : ¬ (⟨K, V, U, N, FL, US, NM, TX⟩ : Rc).ok) :
    Calls Try.prog 6 #[.agg #[va], .int .i64 nv, (⟨K, V, U, N, FL, US, NM, TX⟩ : Rc).v] w fun e w' => e = .returned (.bool false) ∧ Below w.heap.size w w' := by
  have hd : decide (⟨K, V, U, N, FL, US, NM, TX⟩ : Rc).ok = false := decide_eq_false hok
  have HD := Lib.hid hd
  clear hd hok
  obtain ⟨ad, cap, rfl, hrow⟩ := id ha.boxes
  have HROW := Lib.hid hrow
  clear hrow
  obtain ⟨n, hn⟩ : ∃ n, ps.length = n := ⟨_, rfl⟩
  rw [hn] at hl ha ⊢
  have HN := Lib.hid hn
  clear hn
  have HOKC := Lib.hid (fun x => specRecOk_any ⟨K, V, U, N, FL, US, NM, TX⟩ x (by show US.size ≤ _; omega) (by show NM.size ≤ _; omega) (by show TX.size ≤ _; omega))
  have b0 : Below w.heap.size w ((w.alloc (.cells #[.slice ad n cap] 32)).alloc (.cells #[.int .i64 K, .int .i64 V, .int .i64 U, .int .i64 N, .int .i64 FL, .string US, .string NM, .string TX] 34)) := ((Below.refl _ _).alloc (Nat.le_refl _) _).alloc (by simp) _
  have X0 := (Box.new w #[.slice ad n cap] 32).later (belNew _ (.cells #[.int .i64 K, .int .i64 V, .int .i64 U, .int .i64 N, .int .i64 FL, .string US, .string NM, .string TX] 34))
  have X1 := Box.new (w.alloc (.cells #[.slice ad n cap] 32)) #[.int .i64 K, .int .i64 V, .int .i64 U, .int .i64 N, .int .i64 FL, .string US, .string NM, .string TX] 34
  rw [show (w.alloc (.cells #[.slice ad n cap] 32)).heap.size = w.heap.size + 1 by simp] at X1
  have HC : Hid (∀ x, Below ((w.alloc (.cells #[.slice ad n cap] 32)).alloc (.cells #[.int .i64 K, .int .i64 V, .int .i64 U, .int .i64 N, .int .i64 FL, .string US, .string NM, .string TX] 34)).heap.size ((w.alloc (.cells #[.slice ad n cap] 32)).alloc (.cells #[.int .i64 K, .int .i64 V, .int .i64 U, .int .i64 N, .int .i64 FL, .string US, .string NM, .string TX] 34)) x → x.cell? ⟨w.heap.size, 0, none⟩ = some (.slice ad n cap) ∧ (x.cell? ⟨w.heap.size + 1, 0, none⟩ = some (.int .i64 K) ∧ x.cell? ⟨w.heap.size + 1, 1, none⟩ = some (.int .i64 V) ∧ x.cell? ⟨w.heap.size + 1, 2, none⟩ = some (.int .i64 U) ∧ x.cell? ⟨w.heap.size + 1, 3, none⟩ = some (.int .i64 N) ∧ x.cell? ⟨w.heap.size + 1, 4, none⟩ = some (.int .i64 FL) ∧ x.cell? ⟨w.heap.size + 1, 5, none⟩ = some (.string US) ∧ x.cell? ⟨w.heap.size + 1, 6, none⟩ = some (.string NM) ∧ x.cell? ⟨w.heap.size + 1, 7, none⟩ = some (.string TX)) ∧ BRd x (.slice ad n cap) ps ∧ Below w.heap.size w x) := fun x hx => by
    have h' := b0.trans (hx.mono b0.size)
    have y1 := X1.later hx
    exact ⟨(X0.later hx).cell 0 _ rfl, ⟨y1.cell 0 _ rfl, y1.cell 1 _ rfl, y1.cell 2 _ rfl, y1.cell 3 _ rfl, y1.cell 4 _ rfl, y1.cell 5 _ rfl, y1.cell 6 _ rfl, y1.cell 7 _ rfl⟩, ha.later h', h'⟩
  clear X0 X1 ha
  unfold Rc.v at HOKC ⊢
  simp only at HOKC ⊢
  go_enter Try.func6, Try.ntmps6
  go_wp2_with fail
  generalize (w.alloc (.cells #[.slice ad n cap] 32)).alloc (.cells #[.int .i64 K, .int .i64 V, .int .i64 U, .int .i64 N, .int .i64 FL, .string US, .string NM, .string TX] 34) = W at b0 HC ⊢
  refine (HOKC.out _).mono ?_
  rintro e w1 ⟨rfl, k1⟩
  clear HOKC
  rw [HD.out]
  obtain ⟨c0, ⟨d0, d1, d2, d3, d4, d5, d6, d7⟩, hR, hB⟩ := HC.out _ k1
  clear c0 d0 d1 d2 d3 d4 d5 d6 d7 hR
  go_wp2
  go_ret
  exact ⟨rfl, hB⟩

set_option maxRecDepth 100000 in
set_option maxHeartbeats 4000000 in
theorem specFit_rest (ps : List Bx) (va : Value) (nv : Int) (K V U N FL : Int) (US NM TX : ByteArray) (w : World) (ha : BRd w va ps) (hl : ps.length ≤ 1048576) (hm : ∀ b ∈ ps, b.mails.length ≤ 1048576 ∧ b.name.size ≤ 1048576) (s1 : US.size ≤ 1048576) (s2 : NM.size ≤ 1048576) (s3 : TX.size ≤ 1048576) (hok : (⟨K, V, U, N, FL, US, NM, TX⟩ : Rc).ok) (hK : ¬ K = 1) :
    Calls Try.prog 6 #[.agg #[va], .int .i64 nv, (⟨K, V, U, N, FL, US, NM, TX⟩ : Rc).v] w fun e w' => e = .returned (.bool (match ps.find? (vB V) with | none => false | some b => fbB b ⟨K, V, U, N, FL, US, NM, TX⟩)) ∧ Below w.heap.size w w' := by
  obtain ⟨A, hA⟩ : ∃ A : Bool, (match ps.find? (vB V) with | none => false | some b => fbB b ⟨K, V, U, N, FL, US, NM, TX⟩) = A := ⟨_, rfl⟩
  rw [hA]
  have HA := Lib.hid hA
  clear hA
  have hd : decide (⟨K, V, U, N, FL, US, NM, TX⟩ : Rc).ok = true := decide_eq_true hok
  have HD := Lib.hid hd
  clear hd hok
  obtain ⟨ad, cap, rfl, hrow⟩ := id ha.boxes
  have HROW := Lib.hid hrow
  clear hrow
  obtain ⟨n, hn⟩ : ∃ n, ps.length = n := ⟨_, rfl⟩
  rw [hn] at hl ha ⊢
  have HN := Lib.hid hn
  clear hn
  have HOKC := Lib.hid (fun x => specRecOk_any ⟨K, V, U, N, FL, US, NM, TX⟩ x (by show US.size ≤ _; omega) (by show NM.size ≤ _; omega) (by show TX.size ≤ _; omega))
  have b0 : Below w.heap.size w ((w.alloc (.cells #[.slice ad n cap] 32)).alloc (.cells #[.int .i64 K, .int .i64 V, .int .i64 U, .int .i64 N, .int .i64 FL, .string US, .string NM, .string TX] 34)) := ((Below.refl _ _).alloc (Nat.le_refl _) _).alloc (by simp) _
  have X0 := (Box.new w #[.slice ad n cap] 32).later (belNew _ (.cells #[.int .i64 K, .int .i64 V, .int .i64 U, .int .i64 N, .int .i64 FL, .string US, .string NM, .string TX] 34))
  have X1 := Box.new (w.alloc (.cells #[.slice ad n cap] 32)) #[.int .i64 K, .int .i64 V, .int .i64 U, .int .i64 N, .int .i64 FL, .string US, .string NM, .string TX] 34
  rw [show (w.alloc (.cells #[.slice ad n cap] 32)).heap.size = w.heap.size + 1 by simp] at X1
  have HC : Hid (∀ x, Below ((w.alloc (.cells #[.slice ad n cap] 32)).alloc (.cells #[.int .i64 K, .int .i64 V, .int .i64 U, .int .i64 N, .int .i64 FL, .string US, .string NM, .string TX] 34)).heap.size ((w.alloc (.cells #[.slice ad n cap] 32)).alloc (.cells #[.int .i64 K, .int .i64 V, .int .i64 U, .int .i64 N, .int .i64 FL, .string US, .string NM, .string TX] 34)) x → x.cell? ⟨w.heap.size, 0, none⟩ = some (.slice ad n cap) ∧ (x.cell? ⟨w.heap.size + 1, 0, none⟩ = some (.int .i64 K) ∧ x.cell? ⟨w.heap.size + 1, 1, none⟩ = some (.int .i64 V) ∧ x.cell? ⟨w.heap.size + 1, 2, none⟩ = some (.int .i64 U) ∧ x.cell? ⟨w.heap.size + 1, 3, none⟩ = some (.int .i64 N) ∧ x.cell? ⟨w.heap.size + 1, 4, none⟩ = some (.int .i64 FL) ∧ x.cell? ⟨w.heap.size + 1, 5, none⟩ = some (.string US) ∧ x.cell? ⟨w.heap.size + 1, 6, none⟩ = some (.string NM) ∧ x.cell? ⟨w.heap.size + 1, 7, none⟩ = some (.string TX)) ∧ BRd x (.slice ad n cap) ps ∧ Below w.heap.size w x) := fun x hx => by
    have h' := b0.trans (hx.mono b0.size)
    have y1 := X1.later hx
    exact ⟨(X0.later hx).cell 0 _ rfl, ⟨y1.cell 0 _ rfl, y1.cell 1 _ rfl, y1.cell 2 _ rfl, y1.cell 3 _ rfl, y1.cell 4 _ rfl, y1.cell 5 _ rfl, y1.cell 6 _ rfl, y1.cell 7 _ rfl⟩, ha.later h', h'⟩
  clear X0 X1 ha
  unfold Rc.v at HOKC ⊢
  simp only at HOKC ⊢
  go_enter Try.func6, Try.ntmps6
  go_wp2_with fail
  generalize (w.alloc (.cells #[.slice ad n cap] 32)).alloc (.cells #[.int .i64 K, .int .i64 V, .int .i64 U, .int .i64 N, .int .i64 FL, .string US, .string NM, .string TX] 34) = W at b0 HC ⊢
  refine (HOKC.out _).mono ?_
  rintro e w1 ⟨rfl, k1⟩
  clear HOKC
  rw [HD.out]
  clear HD
  obtain ⟨c0, ⟨d0, d1, d2, d3, d4, d5, d6, d7⟩, hR, hB⟩ := HC.out _ k1
  have hK' : (K == 1) = false := beq_eq_false_iff_ne.2 hK
  have HLB := Lib.hid (l12Box_any ps _ V w1 hR (by have := HN.out; omega))
  go_wp2_with fail
  refine HLB.out.mono ?_
  rintro e w2 ⟨⟨q, rfl, hq⟩, k2⟩
  clear HLB c0 d0 d1 d2 d3 d4 d5 d6 d7 hR hB
  have k12 := k1.trans (k2.mono k1.size)
  obtain ⟨c0, ⟨d0, d1, d2, d3, d4, d5, d6, d7⟩, hR, hB⟩ := HC.out _ k12
  rcases hq.find with ⟨rfl, hf⟩ | ⟨i, b, rfl, hib, hf⟩
  · rw [hf] at HA
    clear hf hq hR
    go_wp2
    go_ret
    exact ⟨by rw [← HA.out]; rfl, hB⟩
  · rw [hf] at HA
    replace HA : Hid (fbB b ⟨K, V, U, N, FL, US, NM, TX⟩ = A) := HA
    clear hf hq
    have hi2 : i < n := by have := (List.getElem?_eq_some_iff.1 hib).1; have := HN.out; omega
    have hbm := (hm b (List.mem_of_getElem? hib)).1
    obtain ⟨ga, oa, am, nm, cm, rfl, a0, a1, a2, a3, a4, hml⟩ := HROW.out _ hB i b hib
    have hml2 := hml.later hB
    have hnm : nm = b.mails.length := (hml.mails).1
    have HNM := Lib.hid hnm
    clear hib hml hnm hR
    have hi0 : (0 : Int) ≤ (i : Int) := by omega
    have hi1 : (i : Int) < (n : Int) := by omega
    have hi3 : ¬ ((i : Int) < 0) := by omega
    have k3 := belNew w2 (.cells #[.int .i64 b.valid, .string b.user, .string b.name, .int .i64 b.next, .slice am nm cm] 42)
    have hB3 := hB.trans (k3.mono hB.size)
    obtain ⟨c0', ⟨d0', d1', d2', d3', d4', d5', d6', d7'⟩, _, _⟩ := HC.out _ (k12.trans (k3.mono k12.size))
    have HLM := Lib.hid (l12Mail_any b am nm cm U _ (hml2.later k3) hbm)
    have HFB : Hid (fbB b ⟨K, V, U, N, FL, US, NM, TX⟩ = if K = 3 then decide (U = b.next) && decide (b.mails.length < 8) else if K = 4 ∨ K = 5 then hasM b.mails U else true) := rfl
    rw [HA.out] at HFB
    clear HA
    clear hml2 k3
    by_cases h3 : K = 3
    · rw [if_pos h3] at HFB
      subst h3
      clear HLM
      by_cases hU : U = b.next
      · subst hU
        go_wp2
        go_ret
        refine ⟨?_, hB3⟩
        rw [HFB.out, ← HNM.out]
        by_cases hlen : (nm : Int) < 8
        · have hlen2 : nm < 8 := by omega
          simp [hlen, hlen2]
        · have hlen2 : ¬ nm < 8 := by omega
          simp [hlen, hlen2]
      · have hU' : (U == b.next) = false := beq_eq_false_iff_ne.2 hU
        go_wp2
        go_ret
        exact ⟨by rw [HFB.out]; first | rfl | simp [hU], hB3⟩
    · rw [if_neg h3] at HFB
      have h3' : (K == 3) = false := beq_eq_false_iff_ne.2 h3
      by_cases h4 : K = 4
      · rw [if_pos (.inl h4)] at HFB
        subst h4
        clear h3 h3' hK hK'
        go_wp2_with fail
        refine HLM.out.mono ?_
        rintro e w4 ⟨⟨z, rfl, hz⟩, k4⟩
        have hB4 := hB3.trans (k4.mono hB3.size)
        rcases hz with ⟨hz, he⟩ | ⟨hz, he⟩
        · have HE := Lib.hid he
          clear he
          go_wp2
          go_ret
          exact ⟨by rw [HFB.out, HE.out]; first | rfl | simp [hz], hB4⟩
        · have HE := Lib.hid he
          clear he
          go_wp2
          go_ret
          exact ⟨by rw [HFB.out, HE.out]; first | rfl | simp [hz], hB4⟩
      · have h4' : (K == 4) = false := beq_eq_false_iff_ne.2 h4
        by_cases h5 : K = 5
        · rw [if_pos (.inr h5)] at HFB
          subst h5
          clear h3 h3' hK hK' h4 h4'
          go_wp2_with fail
          refine HLM.out.mono ?_
          rintro e w4 ⟨⟨z, rfl, hz⟩, k4⟩
          have hB4 := hB3.trans (k4.mono hB3.size)
          rcases hz with ⟨hz, he⟩ | ⟨hz, he⟩
          · have HE := Lib.hid he
            clear he
            go_wp2
            go_ret
            exact ⟨by rw [HFB.out, HE.out]; first | rfl | simp [hz], hB4⟩
          · have HE := Lib.hid he
            clear he
            go_wp2
            go_ret
            exact ⟨by rw [HFB.out, HE.out]; first | rfl | simp [hz], hB4⟩
        · rw [if_neg (fun h => h.elim h4 h5)] at HFB
          have h5' : (K == 5) = false := beq_eq_false_iff_ne.2 h5
          clear HLM
          go_wp2
          go_ret
          exact ⟨by rw [HFB.out]; rfl, hB3⟩

set_option maxRecDepth 100000 in
theorem specFitting_any (r : Rc) (ps : List Bx) (va : Value) (nv : Int) (w : World) (ha : BRd w va ps) (hl : ps.length ≤ 1048576) (hm : ∀ b ∈ ps, b.mails.length ≤ 1048576 ∧ b.name.size ≤ 1048576) (s1 : r.user.size ≤ 1048576) (s2 : r.name.size ≤ 1048576) (s3 : r.text.size ≤ 1048576) :
    Calls Try.prog 6 #[.agg #[va], .int .i64 nv, r.v] w fun e w' => e = .returned (.bool (fitB ps nv r)) ∧ Below w.heap.size w w' := by
  obtain ⟨K, V, U, N, FL, US, NM, TX⟩ := r
  unfold fitB
  by_cases hok : (⟨K, V, U, N, FL, US, NM, TX⟩ : Rc).ok
  · rw [if_pos hok]
    by_cases hK : K = 1
    · rw [if_pos (show (⟨K, V, U, N, FL, US, NM, TX⟩ : Rc).kind = 1 from hK)]
      exact specFit_box ps va nv K V U N FL US NM TX w ha hl hm s1 s2 s3 hok hK
    · rw [if_neg (show ¬ (⟨K, V, U, N, FL, US, NM, TX⟩ : Rc).kind = 1 from hK)]
      exact specFit_rest ps va nv K V U N FL US NM TX w ha hl hm s1 s2 s3 hok hK
  · rw [if_neg hok]
    exact specFit_bad ps va nv K V U N FL US NM TX w ha hl hm s1 s2 s3 hok

end Go.Proofs.Ytmbmbnjbeofmaaa

/- A list of the call's own, sorted by the library. -/
namespace Go.Proofs.Ytmbmbnjbeofmaaa
open Go.RowKit Go.Sort

/-- A list with room: nothing stands in it yet. -/
theorem wpList_make_cap {α : Type} {w : World} {ops : Array Oper} {rest : List Oper} {o : Oper} {a : Act} {Q : Exit → Act → World → Prop} (hg : o.guard = none) (x c : Operand) (E : Enc α) (hop : o.op = Op.makeSlice E.sty x c)
    (kl kc : IntKind) (C : Int) (n : Nat) (hl : a.eval x = .int kl 0) (hc : a.eval c = .int kc C) (hC : C = (n : Int)) (hn : (E.bytes + 1) * n ≤ 281474976710656)
    (h : ∀ w', RBuf E w.heap.size w w' (.slice (some ⟨w.heap.size, 0, none⟩) 0 n) [] → w.grownBy w' none → wpList Try.prog ops Q rest (a.put o.dst (.slice (some ⟨w.heap.size, 0, none⟩) 0 n)) w') : wpList Try.prog ops Q (o :: rest) a w := by
  obtain ⟨i0, hi, hz0, hz1, hz2⟩ := info_parts E.info
  have e0 : (E.bytes + 1) * n = E.bytes * n + n := Nat.succ_mul _ _
  refine wpList_make_own w hg x c E.sty hop w.heap.size E.ty i0 E.zero E.sz E.und hi hz0 hz1 kl kc C n hl hc hC (by rw [hz2]; omega) (by unfold maxLen; omega) (Nat.le_refl _) ?_
  intro w' hown hgrow
  exact h w' ⟨hown, (Below.refl _ _).grown hgrow (Nat.le_refl _) (fun k hk => by cases hk), hgrow.size⟩ hgrow

section
variable {α : Type} [Inhabited α] {E : Enc α} {B : Nat} {w0 w : World} {g cap : Nat} {l : List α}

theorem row_flat (E : Enc α) (l : List α) {t : Nat} (h : t < l.length * E.sz) : (E.row l)[t]? = some ((flatK E.f E.sz l.toArray)[t]!) := by
  have hp := E.pos
  have hj : t / E.sz < l.length := (Nat.div_lt_iff_lt_mul hp).2 h
  have hm : t % E.sz < E.sz := Nat.mod_lt _ hp
  have hx : l[t / E.sz]? = some l[t / E.sz] := List.getElem?_eq_getElem hj
  have h1 := E.row_at l (t / E.sz) _ hx (t % E.sz) hm
  rw [Nat.div_add_mod'] at h1
  rw [h1, get_flatK _ _ _ _ (by simpa using h)]
  have h2 : l.toArray[t / E.sz]! = l[t / E.sz] := by
    rw [getElem!_pos l.toArray (t / E.sz) (by simpa using hj)]; simp
  rw [h2, getElem!_pos _ _ (by rw [E.len]; exact hm), List.getElem?_eq_getElem (by rw [E.len]; exact hm)]

/-- What the sort asks of the row. -/
theorem RBuf.holdsK (h : RBuf E B w0 w (.slice (some ⟨g, 0, none⟩) l.length cap) l) : HoldsK E.f E.sz w g 0 l.toArray := by
  intro t ht
  rw [size_flatK] at ht
  have ht' : t < l.length * E.sz := by simpa using ht
  have hp := E.pos
  have hj : t / E.sz < l.length := (Nat.div_lt_iff_lt_mul hp).2 ht'
  have hm : t % E.sz < E.sz := Nat.mod_lt _ hp
  have hx : l[t / E.sz]? = some l[t / E.sz] := List.getElem?_eq_getElem hj
  refine ⟨?_, by rw [Nat.zero_add]; exact h.loose t⟩
  have h0 := row_flat E l ht'
  have h1 := E.row_at l (t / E.sz) _ hx (t % E.sz) hm
  rw [Nat.div_add_mod'] at h1
  rw [h1] at h0
  have h2 := h.cell rfl (t / E.sz) _ hx (t % E.sz) _ h0
  rw [Nat.div_add_mod'] at h2
  rw [Nat.zero_add]
  exact h2

theorem sorted_grown (E : Enc α) (w : World) (g n : Nat) (d : Array α) (os : Array Obj) : w.grownBy (sortWorldK E.f E.sz w g 0 n d os) (some g) := by
  refine ⟨rfl, rfl, rfl, by simp [sortWorldK, putRowK, grow, putRow, mapBlock, Sort.ahead], fun k hk hne => ?_⟩
  have : g ≠ k := fun e => hne (by rw [e])
  unfold sortWorldK putRowK
  rw [heap_grow_old _ _ (by simpa [putRow, mapBlock, Sort.ahead] using hk)]
  simp [putRow, mapBlock, Sort.ahead, Array.getElem?_modify, this]

/-- Behind it the same slice holds the sorted list. -/
theorem RBuf.sorted (h : RBuf E B w0 w (.slice (some ⟨g, 0, none⟩) l.length cap) l) {l' : List α} (hl : l'.length = l.length) (n : Nat) (os : Array Obj) :
    RBuf E B w0 (sortWorldK E.f E.sz w g 0 n l'.toArray os) (.slice (some ⟨g, 0, none⟩) l.length cap) l' := by
  have hg := sorted_grown E w g n l'.toArray os
  have hB : B ≤ g := (h.own.lt g rfl).1
  refine ⟨?_, h.bel.grown hg h.le (fun k hk => by cases hk; exact hB), Nat.le_trans h.le hg.size⟩
  rcases h.own.2 with ⟨e, _⟩ | ⟨g', cap', cur, e, hb', hb, h1, h2, h3, h4⟩
  · cases e
  · cases e
    rw [← hl]
    refine ⟨E.row_length l', .inr ⟨g, cap, putCells id 0 (flatK E.f E.sz l'.toArray) cur, rfl, hb', ?_, by omega, h2, by simp [putCells, h3], ?_⟩⟩
    · have hgl : g < w.heap.size := (Array.getElem?_eq_some_iff.1 hb).1
      unfold sortWorldK putRowK
      rw [heap_grow_old _ _ (by simpa [putRow, mapBlock, Sort.ahead] using hgl)]
      simp [putRow, mapBlock, Sort.ahead, Array.getElem?_modify, hb, onCells]
    · have hle : l'.length * E.sz ≤ cur.size := by rw [h3, hl]; exact Nat.mul_le_mul_right _ h1
      apply List.ext_getElem?
      intro t
      by_cases ht : t < l'.length * E.sz
      · rw [List.getElem?_take_of_lt ht, Array.getElem?_toList, row_flat E l' ht]
        simp [putCells, ht, show t < cur.size by omega]
      · rw [List.getElem?_take_eq_none (by omega), List.getElem?_eq_none (by rw [E.row_length]; omega)]
/-- What the library's sort says of a list. -/
theorem perm_of {d d' : Array α} (h : PermIn 0 d.size d d') : d'.toList.Perm d.toList := by
  have h1 := h.2.2
  have e1 : d'.extract 0 d.size = d' := by rw [← h.1]; simp
  have e2 : d.extract 0 d.size = d := by simp
  rwa [e1, e2] at h1
theorem sorted_of {lt : α → α → Bool} {d d' : Array α} (hs : d'.size = d.size) (h : SortedIn lt 0 d.size d') : d'.toList.Pairwise (fun x y => lt y x = false) := by
  rw [List.pairwise_iff_getElem]
  intro i j hi hj hij
  have hi' : i < d'.size := by simpa using hi
  have hj' : j < d'.size := by simpa using hj
  have := h i j (Nat.zero_le _) hij (by omega)
  rw [getElem!_pos d' j hj', getElem!_pos d' i hi'] at this
  simpa using this
end

end Go.Proofs.Ytmbmbnjbeofmaaa

/- The library's sort and compare at the numbers of this program. -/
namespace Go.Proofs
open Go.Shelf
def Try.cmpInt_ren : Go.Shelf.Ren := ⟨fun | 5 => 47 | 7 => 52 | n => n, fun | 22 => 3 | 3 => 3 | 4 => 4 | n => n, fun | n => n⟩
theorem Try.cmpInt : Go.Proofs.SlLaysC2.n5 Try.prog Try.cmpInt_ren := {
  mixed := by kernel_rfl
  f5 := ⟨Try.f47.name, by decide, Try.func47.trans (congrArg some (by kernel_rfl))⟩
  f7 := ⟨Try.f52.name, by decide, Try.func52.trans (congrArg some (by kernel_rfl))⟩
  t3 := Try.underlying3
  a3 := Try.isAgg3
  z3 := Try.sizeOf3
  v3 := Try.zeroValue3
  t4 := Try.underlying4
  a4 := Try.isAgg4
  z4 := Try.sizeOf4
  v4 := Try.zeroValue4
  t22 := Try.underlying3
  a22 := Try.isAgg3
  z22 := Try.sizeOf3
  v22 := Try.zeroValue3 }
end Go.Proofs

/- Mails and boxes: there is one of each. -/
namespace Go.Proofs.Ytmbmbnjbeofmaaa

instance : Inhabited Ml := ⟨⟨0, 0, ⟨#[]⟩⟩⟩
instance : Inhabited BxH := ⟨⟨0, ⟨#[]⟩, ⟨#[]⟩, 0, none, 0, 0⟩⟩

end Go.Proofs.Ytmbmbnjbeofmaaa

/- The library's stable sort of boxes: the same boxes stand in the row behind it, in whatever order. -/
namespace Go.Proofs.Ytmbmbnjbeofmaaa
open Go.RowKit Go.Sort

theorem belGrowP (W : World) (q : Nat) (os : Array Obj) : Below W.heap.size W (Sort.grow (W.drewN q) os) := by
  exact ⟨rfl, rfl, rfl, by simp [Sort.grow, World.drewN], fun k hk => by rw [Sort.heap_grow_old _ _ (by simpa [World.drewN] using hk)]; rfl⟩
theorem swp_perm {α : Type} [Inhabited α] (l : List α) {i j : Nat} (hi : i < l.length) (hj : j < l.length) : (swp l.toArray i j).toList.Perm l := by
  have := perm_of (swp_permIn l.toArray 0 l.toArray.size i j (Nat.zero_le _) (by simpa using hi) (Nat.zero_le _) (by simpa using hj) (Nat.le_refl _))
  simpa using this

theorem drewSet (w : World) (a : Addr) (v : Value) : w.drew.setCell a v = (w.setCell a v).drew := rfl

/-- The boxes of a list, in whatever order, in one row of n. -/
def PW (B : Nat) (w0 wr : World) (g n cap : Nat) (hs : List BxH) : Prop := ∃ l, l.Perm hs ∧ l.length = n ∧ RBuf hdE B w0 wr (.slice (some ⟨g, 0, none⟩) n cap) l
theorem PW.later {B : Nat} {w0 w w' : World} {g n cap : Nat} {hs : List BxH} (h : PW B w0 w g n cap hs) (hb : Below w.heap.size w w') : PW B w0 w' g n cap hs := by
  obtain ⟨l, h1, h2, h3⟩ := h
  exact ⟨l, h1, h2, h3.later hb⟩
theorem PW.grow {B : Nat} {w0 w : World} {g n cap : Nat} {hs : List BxH} (h : PW B w0 w g n cap hs) (q : Nat) (os : Array Obj) : PW B w0 (Sort.grow (w.drewN q) os) g n cap hs := h.later (belGrowP w q os)
/-- A swap, cell by cell. -/
theorem PW.swapC {B : Nat} {w0 w : World} {g n cap : Nat} {hs : List BxH} (h : PW B w0 w g n cap hs) {i j : Nat} (hi : i < n) (hj : j < n) :
    ∃ x y : BxH, (w.cell? ⟨g, i * 5, none⟩ = some (.int .i64 x.valid) ∧ w.cell? ⟨g, i * 5 + 1, none⟩ = some (.string x.user) ∧ w.cell? ⟨g, i * 5 + 2, none⟩ = some (.string x.name) ∧ w.cell? ⟨g, i * 5 + 3, none⟩ = some (.int .i64 x.next) ∧ w.cell? ⟨g, i * 5 + 4, none⟩ = some (.slice x.a x.n x.c)) ∧ (w.cell? ⟨g, j * 5, none⟩ = some (.int .i64 y.valid) ∧ w.cell? ⟨g, j * 5 + 1, none⟩ = some (.string y.user) ∧ w.cell? ⟨g, j * 5 + 2, none⟩ = some (.string y.name) ∧ w.cell? ⟨g, j * 5 + 3, none⟩ = some (.int .i64 y.next) ∧ w.cell? ⟨g, j * 5 + 4, none⟩ = some (.slice y.a y.n y.c)) ∧ (∀ k, w.frozen? ⟨g, k, none⟩ = false) ∧
      PW B w0 (((((((((((w.setCell ⟨g, i * 5, none⟩ (.int .i64 y.valid)).setCell ⟨g, i * 5 + 1, none⟩ (.string y.user)).setCell ⟨g, i * 5 + 2, none⟩ (.string y.name)).setCell ⟨g, i * 5 + 3, none⟩ (.int .i64 y.next)).setCell ⟨g, i * 5 + 4, none⟩ (.slice y.a y.n y.c)).setCell ⟨g, j * 5, none⟩ (.int .i64 x.valid)).setCell ⟨g, j * 5 + 1, none⟩ (.string x.user)).setCell ⟨g, j * 5 + 2, none⟩ (.string x.name)).setCell ⟨g, j * 5 + 3, none⟩ (.int .i64 x.next)).setCell ⟨g, j * 5 + 4, none⟩ (.slice x.a x.n x.c))).drew g n cap hs := by
  obtain ⟨l, hp, rfl, hr⟩ := id h
  have hf : ∀ k, w.frozen? ⟨g, k, none⟩ = false := fun k => hr.loose k
  have hK : HoldsK hdE.f 5 w g 0 l.toArray := hr.holdsK
  have hk5 : ∀ x, (hdE.f x).length = 5 := hdE.len
  have hg : g < w.heap.size := (hr.own.lt g rfl).2
  have ex : ∀ t, t < l.length → ∃ z, l[t]? = some z ∧ l.toArray[t]! = z := fun t ht => ⟨l[t], List.getElem?_eq_getElem ht, by rw [getElem!_pos l.toArray t (by simpa using ht)]; simp⟩
  obtain ⟨x, hx, ex1⟩ := ex i hi
  obtain ⟨y, hy, ey1⟩ := ex j hj
  have cx : ∀ k v, (hdE.f x)[k]? = some v → w.cell? ⟨g, i * 5 + k, none⟩ = some v := fun k v hv => hr.cell rfl i x hx k v hv
  have cy : ∀ k v, (hdE.f y)[k]? = some v → w.cell? ⟨g, j * 5 + k, none⟩ = some v := fun k v hv => hr.cell rfl j y hy k v hv
  refine ⟨x, y, ⟨cx 0 _ rfl, cx 1 _ rfl, cx 2 _ rfl, cx 3 _ rfl, cx 4 _ rfl⟩, ⟨cy 0 _ rfl, cy 1 _ rfl, cy 2 _ rfl, cy 3 _ rfl, cy 4 _ rfl⟩, hf, ?_⟩
  have e := sortWorldK_swp_c hdE.f 5 w g 0 hk5 0 l.toArray #[] hg i j (by simpa using hi) (by simpa using hj)
  rw [sortWorldK_start hdE.f 5 w g 0 l.toArray hK, Nat.zero_add, Nat.zero_add, ex1, ey1] at e
  have hl : (swp l.toArray i j).toList.length = l.length := by simp [size_swp]
  have hq : PW B w0 ((w.drew.setCells g (i * 5) (hdE.f y)).setCells g (j * 5) (hdE.f x)) g l.length cap hs := by
    rw [e]
    exact ⟨(swp l.toArray i j).toList, (swp_perm l hi hj).trans hp, hl, by have := hr.sorted hl 1 #[]; rw [Array.toArray_toList] at this; exact this⟩
  simp only [hdE, World.setCells, drewSet, Nat.add_assoc, Nat.reduceAdd] at hq
  exact hq
/-- What a comparison asks. -/
theorem PW.two {B : Nat} {w0 w : World} {g n cap : Nat} {hs : List BxH} (h : PW B w0 w g n cap hs) {i j : Nat} (hi : i < n) (hj : j < n) :
    ∃ x y : BxH, ∀ X, Below w.heap.size w X → (X.cell? ⟨g, i * 5, none⟩ = some (.int .i64 x.valid) ∧ X.cell? ⟨g, i * 5 + 1, none⟩ = some (.string x.user) ∧ X.cell? ⟨g, i * 5 + 2, none⟩ = some (.string x.name) ∧ X.cell? ⟨g, i * 5 + 3, none⟩ = some (.int .i64 x.next) ∧ X.cell? ⟨g, i * 5 + 4, none⟩ = some (.slice x.a x.n x.c)) ∧ (X.cell? ⟨g, j * 5, none⟩ = some (.int .i64 y.valid) ∧ X.cell? ⟨g, j * 5 + 1, none⟩ = some (.string y.user) ∧ X.cell? ⟨g, j * 5 + 2, none⟩ = some (.string y.name) ∧ X.cell? ⟨g, j * 5 + 3, none⟩ = some (.int .i64 y.next) ∧ X.cell? ⟨g, j * 5 + 4, none⟩ = some (.slice y.a y.n y.c)) := by
  obtain ⟨l, hp, rfl, hr⟩ := id h
  obtain ⟨x, hx⟩ : ∃ x, l[i]? = some x := ⟨_, List.getElem?_eq_getElem hi⟩
  obtain ⟨y, hy⟩ : ∃ y, l[j]? = some y := ⟨_, List.getElem?_eq_getElem hj⟩
  refine ⟨x, y, fun X hX => ?_⟩
  have hr' := hr.later hX
  have cx : ∀ k v, (hdE.f x)[k]? = some v → X.cell? ⟨g, i * 5 + k, none⟩ = some v := fun k v hv => hr'.cell rfl i x hx k v hv
  have cy : ∀ k v, (hdE.f y)[k]? = some v → X.cell? ⟨g, j * 5 + k, none⟩ = some v := fun k v hv => hr'.cell rfl j y hy k v hv
  exact ⟨⟨cx 0 _ rfl, cx 1 _ rfl, cx 2 _ rfl, cx 3 _ rfl, cx 4 _ rfl⟩, ⟨cy 0 _ rfl, cy 1 _ rfl, cy 2 _ rfl, cy 3 _ rfl, cy 4 _ rfl⟩⟩

set_option maxRecDepth 100000 in
set_option maxHeartbeats 1000000 in
theorem byValid_grow (x y : BxH) (W : World) : Calls Try.prog 39 #[.agg #[.int .i64 x.valid, .string x.user, .string x.name, .int .i64 x.next, .slice x.a x.n x.c], .agg #[.int .i64 y.valid, .string y.user, .string y.name, .int .i64 y.next, .slice y.a y.n y.c]] W fun e w' => e = .returned (.int .i64 (Lib.compareInt x.valid y.valid)) ∧ ∃ q os', w' = Sort.grow (W.drewN q) os' := by
  generalize hr : Lib.compareInt x.valid y.valid = r
  have hcon : ∀ W', Calls Try.prog 47 #[.int .i64 x.valid, .int .i64 y.valid] W' fun e w' => e = .returned (.int .i64 (Lib.compareInt x.valid y.valid)) ∧ W' = w' := fun W' =>
    (AnyG.cmp_Compare_int Try.cmpInt x.valid y.valid W').mono fun _ _ ⟨h1, h2⟩ => ⟨h1, h2.symm⟩
  rw [hr] at hcon
  clear hr
  go_enter Try.func39, Try.ntmps39
  go_wp2_with (go_at_call 47; refine (hcon _).mono ?_; rintro e w' ⟨rfl, rfl⟩)
  go_ret
  exact ⟨rfl, 0, _, by rw [Sort.alloc_eq_grow, Sort.alloc_eq_grow, Sort.grow_grow]; rfl⟩

theorem byValid_belP (x y : BxH) (W : World) : Calls Try.prog 39 #[.agg #[.int .i64 x.valid, .string x.user, .string x.name, .int .i64 x.next, .slice x.a x.n x.c], .agg #[.int .i64 y.valid, .string y.user, .string y.name, .int .i64 y.next, .slice y.a y.n y.c]] W fun e w' => e = .returned (.int .i64 (Lib.compareInt x.valid y.valid)) ∧ Below W.heap.size W w' := by
  refine (byValid_grow x y W).mono ?_
  rintro e w' ⟨rfl, q, os, rfl⟩
  exact ⟨rfl, belGrowP W q os⟩

set_option maxRecDepth 100000 in
set_option maxHeartbeats 4000000 in
theorem swapRange_any (B : Nat) (w0 w : World) (g n cap a b m : Nat) (hs : List BxH) (f : Value) (h : PW B w0 w g n cap hs) (ha : a + m ≤ n) (hb : b + m ≤ n) (hab : a < b) (hn : n ≤ 1048576) :
    Calls Try.prog 54 #[.slice (some ⟨g, 0, none⟩) n cap, .int .i64 (a : Int), .int .i64 (b : Int), .int .i64 (m : Int), f] w fun e w' => e = .returned (.tuple #[]) ∧ PW B w0 w' g n cap hs := by
  go_enter Try.func54, Try.ntmps54
  go_wp2
  go_loopw [10] (fun iv wr => ∃ i : Nat, i ≤ m ∧ iv = .int .i64 (i : Int) ∧ PW B w0 wr g n cap hs) (fun iv _ => m - (intOf iv).toNat)
  case atStart => exact ⟨0, by omega, rfl, h⟩
  case round =>
    clear h
    obtain ⟨i, hi, rfl, h⟩ := hrel
    by_cases hlt : (i : Int) < (m : Int)
    · obtain ⟨x, y, ⟨x0, x1, x2, x3, x4⟩, ⟨y0, y1, y2, y3, y4⟩, hfz, P2⟩ := h.swapC (i := a + i) (j := b + i) (by omega) (by omega)
      have hw1 : IntKind.i64.wrap ((a : Int) + (i : Int)) = ((a + i : Nat) : Int) := (IntWalk.i64_in _ ⟨by omega, by omega⟩).trans (by omega)
      have hw2 : IntKind.i64.wrap ((b : Int) + (i : Int)) = ((b + i : Nat) : Int) := (IntWalk.i64_in _ ⟨by omega, by omega⟩).trans (by omega)
      have HP := Lib.hid P2
      obtain ⟨p, hp⟩ : ∃ p, a + i = p := ⟨_, rfl⟩
      obtain ⟨q, hq⟩ : ∃ q, b + i = q := ⟨_, rfl⟩
      have hp0 : (0 : Int) ≤ (p : Int) := by omega
      have hp1 : (p : Int) < (n : Int) := by omega
      have hq0 : (0 : Int) ≤ (q : Int) := by omega
      have hq1 : (q : Int) < (n : Int) := by omega
      have hpq : p < q := by omega
      rw [hp] at hw1 x0 x1 x2 x3 x4 HP
      rw [hq] at hw2 y0 y1 y2 y3 y4 HP
      clear h P2 hp hq
      have n0 : ¬ (p * 5 = q * 5) := by omega
      have m0 : ¬ (q * 5 = p * 5) := by omega
      have n1 : ¬ (p * 5 = q * 5 + 1) := by omega
      have m1 : ¬ (q * 5 + 1 = p * 5) := by omega
      have n2 : ¬ (p * 5 = q * 5 + 2) := by omega
      have m2 : ¬ (q * 5 + 2 = p * 5) := by omega
      have n3 : ¬ (p * 5 = q * 5 + 3) := by omega
      have m3 : ¬ (q * 5 + 3 = p * 5) := by omega
      have n4 : ¬ (p * 5 = q * 5 + 4) := by omega
      have m4 : ¬ (q * 5 + 4 = p * 5) := by omega
      have n5 : ¬ (p * 5 + 1 = q * 5) := by omega
      have m5 : ¬ (q * 5 = p * 5 + 1) := by omega
      have n6 : ¬ (p * 5 + 1 = q * 5 + 1) := by omega
      have m6 : ¬ (q * 5 + 1 = p * 5 + 1) := by omega
      have n7 : ¬ (p * 5 + 1 = q * 5 + 2) := by omega
      have m7 : ¬ (q * 5 + 2 = p * 5 + 1) := by omega
      have n8 : ¬ (p * 5 + 1 = q * 5 + 3) := by omega
      have m8 : ¬ (q * 5 + 3 = p * 5 + 1) := by omega
      have n9 : ¬ (p * 5 + 1 = q * 5 + 4) := by omega
      have m9 : ¬ (q * 5 + 4 = p * 5 + 1) := by omega
      have n10 : ¬ (p * 5 + 2 = q * 5) := by omega
      have m10 : ¬ (q * 5 = p * 5 + 2) := by omega
      have n11 : ¬ (p * 5 + 2 = q * 5 + 1) := by omega
      have m11 : ¬ (q * 5 + 1 = p * 5 + 2) := by omega
      have n12 : ¬ (p * 5 + 2 = q * 5 + 2) := by omega
      have m12 : ¬ (q * 5 + 2 = p * 5 + 2) := by omega
      have n13 : ¬ (p * 5 + 2 = q * 5 + 3) := by omega
      have m13 : ¬ (q * 5 + 3 = p * 5 + 2) := by omega
      have n14 : ¬ (p * 5 + 2 = q * 5 + 4) := by omega
      have m14 : ¬ (q * 5 + 4 = p * 5 + 2) := by omega
      have n15 : ¬ (p * 5 + 3 = q * 5) := by omega
      have m15 : ¬ (q * 5 = p * 5 + 3) := by omega
      have n16 : ¬ (p * 5 + 3 = q * 5 + 1) := by omega
      have m16 : ¬ (q * 5 + 1 = p * 5 + 3) := by omega
      have n17 : ¬ (p * 5 + 3 = q * 5 + 2) := by omega
      have m17 : ¬ (q * 5 + 2 = p * 5 + 3) := by omega
      have n18 : ¬ (p * 5 + 3 = q * 5 + 3) := by omega
      have m18 : ¬ (q * 5 + 3 = p * 5 + 3) := by omega
      have n19 : ¬ (p * 5 + 3 = q * 5 + 4) := by omega
      have m19 : ¬ (q * 5 + 4 = p * 5 + 3) := by omega
      have n20 : ¬ (p * 5 + 4 = q * 5) := by omega
      have m20 : ¬ (q * 5 = p * 5 + 4) := by omega
      have n21 : ¬ (p * 5 + 4 = q * 5 + 1) := by omega
      have m21 : ¬ (q * 5 + 1 = p * 5 + 4) := by omega
      have n22 : ¬ (p * 5 + 4 = q * 5 + 2) := by omega
      have m22 : ¬ (q * 5 + 2 = p * 5 + 4) := by omega
      have n23 : ¬ (p * 5 + 4 = q * 5 + 3) := by omega
      have m23 : ¬ (q * 5 + 3 = p * 5 + 4) := by omega
      have n24 : ¬ (p * 5 + 4 = q * 5 + 4) := by omega
      have m24 : ¬ (q * 5 + 4 = p * 5 + 4) := by omega
      have mixed : Try.prog.follows Departure.mixedOrders = true := by kernel_rfl
      go_wp2_with fail
      go_big_region_o
      all_goals go_wp2
      go_roundw
      case rel => exact ⟨i + 1, by omega, by go_num, HP.out⟩
      case measure => simp [intOf]; omega
    · go_wp2
      go_end0
      exact ⟨rfl, h⟩

end Go.Proofs.Ytmbmbnjbeofmaaa

/- The library's stable sort of boxes, at whatever length. -/
namespace Go.Proofs.Ytmbmbnjbeofmaaa
open Go.RowKit Go.Sort

set_option maxRecDepth 100000 in
set_option maxHeartbeats 4000000 in
theorem rotate_any (B : Nat) (w0 w : World) (g n cap a m b : Nat) (hs : List BxH) (f : Value) (h : PW B w0 w g n cap hs) (ham : a < m) (hmb : m < b) (hbn : b ≤ n) (hn : n ≤ 1048576) :
    Calls Try.prog 53 #[.slice (some ⟨g, 0, none⟩) n cap, .int .i64 (a : Int), .int .i64 (m : Int), .int .i64 (b : Int), f] w fun e w' => e = .returned (.tuple #[]) ∧ PW B w0 w' g n cap hs := by
  have hw0 : IntKind.i64.wrap ((m : Int) - (a : Int)) = ((m - a : Nat) : Int) := (IntWalk.i64_in _ ⟨by omega, by omega⟩).trans (by omega)
  have hw1 : IntKind.i64.wrap ((b : Int) - (m : Int)) = ((b - m : Nat) : Int) := (IntWalk.i64_in _ ⟨by omega, by omega⟩).trans (by omega)
  go_enter Try.func53, Try.ntmps53
  go_wp2
  go_loopw [10, 11] (fun iv jv wr => ∃ i j : Nat, 1 ≤ i ∧ a + i ≤ m ∧ 1 ≤ j ∧ m + j ≤ b ∧ iv = .int .i64 (i : Int) ∧ jv = .int .i64 (j : Int) ∧ PW B w0 wr g n cap hs) (fun iv jv _ => (intOf iv).toNat + (intOf jv).toNat)
  case atStart => exact ⟨m - a, b - m, by omega, by omega, by omega, by omega, by first | rfl | (simp [hw0]) | (congr 1; omega), by first | rfl | (simp [hw1]) | (congr 1; omega), h⟩
  case round =>
    clear h hw0 hw1
    obtain ⟨i, j, hi, hi2, hj, hj2, rfl, rfl, h⟩ := hrel
    have hw2 : IntKind.i64.wrap ((m : Int) - (i : Int)) = ((m - i : Nat) : Int) := (IntWalk.i64_in _ ⟨by omega, by omega⟩).trans (by omega)
    by_cases hij : i = j
    · subst hij
      have HS := Lib.hid (fun x hx => swapRange_any B w0 x g n cap (m - i) m i hs f hx (by omega) (by omega) (by omega) hn)
      go_wp2_with fail
      refine (HS.out _ h).mono ?_
      rintro e w1 ⟨rfl, h1⟩
      go_wp2
      go_end0
      exact ⟨rfl, h1⟩
    · have hne : ¬ ((i : Int) = (j : Int)) := by omega
      by_cases hlt : (j : Int) < (i : Int)
      · have HS := Lib.hid (fun x hx => swapRange_any B w0 x g n cap (m - i) m j hs f hx (by omega) (by omega) (by omega) hn)
        have hw3 : IntKind.i64.wrap ((i : Int) - (j : Int)) = ((i - j : Nat) : Int) := (IntWalk.i64_in _ ⟨by omega, by omega⟩).trans (by omega)
        go_wp2_with fail
        refine (HS.out _ h).mono ?_
        rintro e w1 ⟨rfl, h1⟩
        go_wp2
        go_roundw
        case rel => exact ⟨i - j, j, by omega, by omega, by omega, by omega, by first | rfl | (simp [hw3]) | (congr 1; omega), rfl, h1⟩
        case measure => simp [intOf]; omega
      · obtain ⟨s, hs1⟩ : ∃ s : Nat, m + j = s := ⟨_, rfl⟩
        obtain ⟨t, ht1⟩ : ∃ t : Nat, s - i = t := ⟨_, rfl⟩
        have HS := Lib.hid (fun x hx => swapRange_any B w0 x g n cap (m - i) t i hs f hx (by omega) (by omega) (by omega) hn)
        have hw3 : IntKind.i64.wrap ((j : Int) - (i : Int)) = ((j - i : Nat) : Int) := (IntWalk.i64_in _ ⟨by omega, by omega⟩).trans (by omega)
        have hw4 : IntKind.i64.wrap ((m : Int) + (j : Int)) = ((s : Nat) : Int) := (IntWalk.i64_in _ ⟨by omega, by omega⟩).trans (by omega)
        have hw5 : IntKind.i64.wrap ((s : Int) - (i : Int)) = ((t : Nat) : Int) := (IntWalk.i64_in _ ⟨by omega, by omega⟩).trans (by omega)
        clear hs1 ht1
        go_wp2_with fail
        refine (HS.out _ h).mono ?_
        rintro e w1 ⟨rfl, h1⟩
        go_wp2
        go_roundw
        case rel => exact ⟨i, j - i, by omega, by omega, by omega, by omega, rfl, by first | rfl | (simp [hw3]) | (congr 1; omega), h1⟩
        case measure => simp [intOf]; omega

set_option maxRecDepth 100000 in
set_option maxHeartbeats 4000000 in
theorem insert_any (B : Nat) (w0 w : World) (g n cap a b : Nat) (hs : List BxH) (h : PW B w0 w g n cap hs) (hab : a ≤ b) (hbn : b ≤ n) (hn : n ≤ 1048576) :
    Calls Try.prog 50 #[.slice (some ⟨g, 0, none⟩) n cap, .int .i64 (a : Int), .int .i64 (b : Int), .func (.func 39) #[] #[]] w fun e w' => e = .returned (.tuple #[]) ∧ PW B w0 w' g n cap hs := by
  have hw0 : IntKind.i64.wrap ((a : Int) + 1) = ((a + 1 : Nat) : Int) := (IntWalk.i64_in _ ⟨by omega, by omega⟩).trans (by omega)
  go_enter Try.func50, Try.ntmps50
  go_wp2
  go_loopw [8] (fun iv wr => ∃ i : Nat, a + 1 ≤ i ∧ i ≤ b + 1 ∧ iv = .int .i64 (i : Int) ∧ PW B w0 wr g n cap hs) (fun iv _ => b + 1 - (intOf iv).toNat)
  case atStart => exact ⟨a + 1, by omega, by omega, by first | rfl | (simp [hw0]) | simp, h⟩
  case round =>
    clear h hw0
    obtain ⟨i, hi, hi2, rfl, h⟩ := hrel
    by_cases hlt : (i : Int) < (b : Int)
    · go_wp2
      go_loopw [9] (fun jv wr => ∃ j : Nat, a ≤ j ∧ j ≤ i ∧ jv = .int .i64 (j : Int) ∧ PW B w0 wr g n cap hs) (fun jv _ => (intOf jv).toNat)
      case atStart => exact ⟨i, by omega, by omega, rfl, h⟩
      case round =>
        clear h
        obtain ⟨p, hpa1, hpa2, rfl, h⟩ := hrel
        have hwi : IntKind.i64.wrap ((i : Int) + 1) = ((i + 1 : Nat) : Int) := (IntWalk.i64_in _ ⟨by omega, by omega⟩).trans (by omega)
        by_cases hpa : (a : Int) < (p : Int)
        · obtain ⟨q, hq⟩ : ∃ q : Nat, p - 1 = q := ⟨_, rfl⟩
          have hw1 : IntKind.i64.wrap ((p : Int) - 1) = ((q : Nat) : Int) := (IntWalk.i64_in _ ⟨by omega, by omega⟩).trans (by omega)
          have hpq : q < p := by omega
          have hpq1 : p ≤ q + 1 := by omega
          clear hq
          obtain ⟨X, Y, hXY⟩ := h.two (i := p) (j := q) (by omega) (by omega)
          have HY := Lib.hid hXY
          have HPW := Lib.hid h
          obtain ⟨r, hr⟩ : ∃ r, Lib.compareInt X.valid Y.valid = r := ⟨_, rfl⟩
          have HC := Lib.hid (fun W => byValid_belP X Y W)
          rw [hr] at HC
          have hcp0 : (0 : Int) ≤ (p : Int) := by omega
          have hcp1 : (p : Int) < (n : Int) := by omega
          have hcq0 : (0 : Int) ≤ (q : Int) := by omega
          have hcq1 : (q : Int) < (n : Int) := by omega
          have kk : Below wr.heap.size wr wr.drew := (Below.refl _ _).drew
          obtain ⟨⟨x0, x1, x2, x3, x4⟩, y0, y1, y2, y3, y4⟩ := HY.out _ kk
          clear h hr hXY
          go_upto_region 4 with fail
          go_cut [34] (fun c wx => c = .bool (decide (r < 0)) ∧ ∃ y, y = wx ∧ Below wr.heap.size wr y)
          case first =>
            go_region_held3 (fun X' => (X'.cell? ⟨g, p * 5, none⟩ = some (.int .i64 X.valid) ∧ X'.cell? ⟨g, p * 5 + 1, none⟩ = some (.string X.user) ∧ X'.cell? ⟨g, p * 5 + 2, none⟩ = some (.string X.name) ∧ X'.cell? ⟨g, p * 5 + 3, none⟩ = some (.int .i64 X.next) ∧ X'.cell? ⟨g, p * 5 + 4, none⟩ = some (.slice X.a X.n X.c)) ∧ (X'.cell? ⟨g, q * 5, none⟩ = some (.int .i64 Y.valid) ∧ X'.cell? ⟨g, q * 5 + 1, none⟩ = some (.string Y.user) ∧ X'.cell? ⟨g, q * 5 + 2, none⟩ = some (.string Y.name) ∧ X'.cell? ⟨g, q * 5 + 3, none⟩ = some (.int .i64 Y.next) ∧ X'.cell? ⟨g, q * 5 + 4, none⟩ = some (.slice Y.a Y.n Y.c)))
              (first | exact HY.out _ kk)
              (first | (go_at_call 39; refine (HC.out _).mono ?_; rintro e wX ⟨rfl, kX⟩; have kk := kk.trans (kX.mono kk.size)))
            all_goals
              go_wp2_with fail
              go_meet
              exact ⟨by first | rfl | simp, _, rfl, kk⟩
          case rest =>
          obtain ⟨rfl, w1, hwr, k1⟩ := hcut
          subst hwr
          clear x0 x1 x2 x3 x4 y0 y1 y2 y3 y4 kk HY HC hcp0 hcp1 hcq0 hcq1
          by_cases hlv : r < 0
          · rw [decide_eq_true hlv]
            have h := HPW.out.later k1
            clear hlv k1 HPW
            obtain ⟨x, y, ⟨x0, x1, x2, x3, x4⟩, ⟨y0, y1, y2, y3, y4⟩, hfz, P2⟩ := h.swapC (i := p) (j := q) (by omega) (by omega)
            have HP := Lib.hid P2
            have hp0 : (0 : Int) ≤ (p : Int) := by omega
            have hp1 : (p : Int) < (n : Int) := by omega
            have hq0 : (0 : Int) ≤ (q : Int) := by omega
            have hq1 : (q : Int) < (n : Int) := by omega
            clear h P2
            have n0 : ¬ (p * 5 = q * 5) := by omega
            have m0 : ¬ (q * 5 = p * 5) := by omega
            have n1 : ¬ (p * 5 = q * 5 + 1) := by omega
            have m1 : ¬ (q * 5 + 1 = p * 5) := by omega
            have n2 : ¬ (p * 5 = q * 5 + 2) := by omega
            have m2 : ¬ (q * 5 + 2 = p * 5) := by omega
            have n3 : ¬ (p * 5 = q * 5 + 3) := by omega
            have m3 : ¬ (q * 5 + 3 = p * 5) := by omega
            have n4 : ¬ (p * 5 = q * 5 + 4) := by omega
            have m4 : ¬ (q * 5 + 4 = p * 5) := by omega
            have n5 : ¬ (p * 5 + 1 = q * 5) := by omega
            have m5 : ¬ (q * 5 = p * 5 + 1) := by omega
            have n6 : ¬ (p * 5 + 1 = q * 5 + 1) := by omega
            have m6 : ¬ (q * 5 + 1 = p * 5 + 1) := by omega
            have n7 : ¬ (p * 5 + 1 = q * 5 + 2) := by omega
            have m7 : ¬ (q * 5 + 2 = p * 5 + 1) := by omega
            have n8 : ¬ (p * 5 + 1 = q * 5 + 3) := by omega
            have m8 : ¬ (q * 5 + 3 = p * 5 + 1) := by omega
            have n9 : ¬ (p * 5 + 1 = q * 5 + 4) := by omega
            have m9 : ¬ (q * 5 + 4 = p * 5 + 1) := by omega
            have n10 : ¬ (p * 5 + 2 = q * 5) := by omega
            have m10 : ¬ (q * 5 = p * 5 + 2) := by omega
            have n11 : ¬ (p * 5 + 2 = q * 5 + 1) := by omega
            have m11 : ¬ (q * 5 + 1 = p * 5 + 2) := by omega
            have n12 : ¬ (p * 5 + 2 = q * 5 + 2) := by omega
            have m12 : ¬ (q * 5 + 2 = p * 5 + 2) := by omega
            have n13 : ¬ (p * 5 + 2 = q * 5 + 3) := by omega
            have m13 : ¬ (q * 5 + 3 = p * 5 + 2) := by omega
            have n14 : ¬ (p * 5 + 2 = q * 5 + 4) := by omega
            have m14 : ¬ (q * 5 + 4 = p * 5 + 2) := by omega
            have n15 : ¬ (p * 5 + 3 = q * 5) := by omega
            have m15 : ¬ (q * 5 = p * 5 + 3) := by omega
            have n16 : ¬ (p * 5 + 3 = q * 5 + 1) := by omega
            have m16 : ¬ (q * 5 + 1 = p * 5 + 3) := by omega
            have n17 : ¬ (p * 5 + 3 = q * 5 + 2) := by omega
            have m17 : ¬ (q * 5 + 2 = p * 5 + 3) := by omega
            have n18 : ¬ (p * 5 + 3 = q * 5 + 3) := by omega
            have m18 : ¬ (q * 5 + 3 = p * 5 + 3) := by omega
            have n19 : ¬ (p * 5 + 3 = q * 5 + 4) := by omega
            have m19 : ¬ (q * 5 + 4 = p * 5 + 3) := by omega
            have n20 : ¬ (p * 5 + 4 = q * 5) := by omega
            have m20 : ¬ (q * 5 = p * 5 + 4) := by omega
            have n21 : ¬ (p * 5 + 4 = q * 5 + 1) := by omega
            have m21 : ¬ (q * 5 + 1 = p * 5 + 4) := by omega
            have n22 : ¬ (p * 5 + 4 = q * 5 + 2) := by omega
            have m22 : ¬ (q * 5 + 2 = p * 5 + 4) := by omega
            have n23 : ¬ (p * 5 + 4 = q * 5 + 3) := by omega
            have m23 : ¬ (q * 5 + 3 = p * 5 + 4) := by omega
            have n24 : ¬ (p * 5 + 4 = q * 5 + 4) := by omega
            have m24 : ¬ (q * 5 + 4 = p * 5 + 4) := by omega
            have mixed : Try.prog.follows Departure.mixedOrders = true := by kernel_rfl
            go_wp2_with fail
            go_big_region_o
            all_goals go_wp2
            go_roundw
            case rel => exact ⟨q, by omega, by omega, by first | rfl | (simp [hw1]) | (congr 1; omega), HP.out⟩
            case measure => simp [intOf]; omega
          · rw [decide_eq_false hlv]
            have h := HPW.out.later k1
            clear hlv k1 HPW
            go_wp2
            exact ⟨⟨i + 1, by omega, by omega, by first | rfl | (simp [hwi]) | simp, h⟩, by first | omega | (simp [intOf]; omega)⟩
        · obtain rfl : p = a := by omega
          clear hpa
          go_wp2_with fail
          go_quiet (fail)
          go_wp2
          exact ⟨⟨i + 1, by omega, by omega, by first | rfl | (simp [hwi]) | simp, h.later (below_drewN (Below.refl _ _) _)⟩, by first | omega | (simp [intOf]; omega)⟩
    · go_wp2
      go_end0
      exact ⟨rfl, h⟩

end Go.Proofs.Ytmbmbnjbeofmaaa
