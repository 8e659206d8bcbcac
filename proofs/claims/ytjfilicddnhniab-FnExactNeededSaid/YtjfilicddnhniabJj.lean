/- Texts of our own, joined. -/
import Derived.Test.YtjfilicddnhniabJi
import Derived.Test.YtjfilicddnhniabJg
import Derived.Test.YtjfilicddnhniabJc
import Derived.Test.YtjfilicddnhniabJb
import Derived.Maps.AppendAt
import Derived.Lib.Hide
/- NeededAll and Needed of the model. -/
namespace Go.Proofs.Ytjfilicddnhniab
open Go.RowKit

noncomputable def needL (l : List Itm) : List Bool := needP l (decide (itemsOk l)) l.length
theorem needL_len (l : List Itm) : (needL l).length = l.length := needP_len l _ _ (Nat.le_refl _)

set_option maxRecDepth 100000 in
set_option maxHeartbeats 4000000 in
theorem specNeededAll_any (l : List Itm) (v : Value) (w : World) (h : Rows' itE w v l) (hl : l.length ≤ 1048576) (hz : ∀ x ∈ l, x.2.user.size ≤ 1048576 ∧ x.2.name.size ≤ 1048576 ∧ x.2.text.size ≤ 1048576) :
    Calls Try.prog 21 #[v] w fun e w' => ∃ v', e = .returned v' ∧ RBuf boE w.heap.size w w' v' (needL l) := by
  have HIO := Lib.hid (fun x (hx : Below w.heap.size w x) => specItemsOk_any l v x (h.later hx) (by omega) (fun y hy => by have := hz y hy; omega))
  have HND : Hid (itemsOk l → ∀ (k : Nat) (y : Itm), l[k]? = some y → ∀ x, Below w.heap.size w x → Calls Try.prog 46 #[v, .int .i64 (k : Int)] x fun e w' => e = .returned (.bool (needB l k y)) ∧ Below x.heap.size x w') := fun hok k y hk x hx => specNeed_any l v k y x (h.later hx) hl hk ((hok.1 y (List.mem_of_getElem? hk)).2.1)
  obtain ⟨ad, cap, rfl, _⟩ := h.items
  clear h hz
  have HE : Hid (needL l = needP l (decide (itemsOk l)) l.length) := by show _ = _; rfl
  have HOK : Hid (decide (itemsOk l) = true → itemsOk l) := fun h => of_decide_eq_true h
  generalize needL l = R at HE ⊢
  generalize decide (itemsOk l) = ok at HIO HE HOK
  obtain ⟨n, hn⟩ : ∃ n, l.length = n := ⟨_, rfl⟩
  rw [hn] at hl HE HIO HND
  rw [hn]
  have HN := Lib.hid hn
  clear hn
  go_enter Try.func21, Try.ntmps21
  go_wp2_with fail
  refine (HIO.out _ (Below.refl _ _)).mono ?_
  rintro e w1 ⟨rfl, k1⟩
  clear HIO
  have I0 := (RBuf.fresh boE w1).down (k1.trans ((belNew w1 (.cells #[] boE.ty)).mono k1.size)) k1.size
  go_wp2
  go_loopw [4, 5] (fun v iv wr => ∃ i : Nat, i ≤ n ∧ iv = .int .i64 (i : Int) ∧ RBuf boE w.heap.size w wr v (needP l ok i)) (fun _ iv _ => n - (intOf iv).toNat)
  case atStart => exact ⟨0, by omega, rfl, I0⟩
  case round =>
    clear I0 k1
    obtain ⟨i, hi, rfl, I⟩ := hrel
    by_cases hlt : i < n
    · obtain ⟨x, hgx⟩ : ∃ x, l[i]? = some x := ⟨_, List.getElem?_eq_getElem (by rw [HN.out]; exact hlt)⟩
      have HST := Lib.hid (needP_step (ok := ok) hgx)
      have hlu := needP_len l ok i (by rw [HN.out]; exact hi)
      have hl2 : (needP l ok i).length ≤ 1048576 := by omega
      clear hlu
      generalize needP l ok i = us at HST I hl2
      have hi0 : (0 : Int) ≤ (i : Int) := by omega
      have hi1 : (i : Int) < (n : Int) := by omega
      cases ok with
      | false =>
        have HR6 := Lib.hid (I.alloc (.cells #[.bool false] 4))
        have HL6 := Lib.hid (RBuf.lit1 boE wr false)
        clear hgx I HND
        go_wp2_with (at_builtin; refine wpList_append_rows rfl _ _ boE rfl w.heap.size _ _ rfl HR6.out.here wr.heap.size _ [false] rfl HL6.out (by show _ * 2 ≤ _; simp only [List.length_cons, List.length_nil]; omega) ?_; intro v6 w6 r6 g6 at6)
        exact ⟨⟨i + 1, by omega, by simp, by rw [HST.out]; exact ⟨r6.own, HR6.out.bel.grown g6 HR6.out.le (fun k hk => (HR6.out.own.lt k hk).1), r6.le⟩⟩, by first | omega | (simp [intOf]; omega)⟩
      | true =>
        have HNK := Lib.hid (HND.out (HOK.out rfl) i x hgx _ I.bel)
        generalize needB l i x = D at HST HNK
        clear hgx
        go_wp2_with fail
        refine HNK.out.mono ?_
        rintro e w5 ⟨rfl, k5⟩
        have HR6 := Lib.hid ((I.later k5).alloc (.cells #[.bool D] 4))
        have HL6 := Lib.hid (RBuf.lit1 boE w5 D)
        clear I k5 HNK
        go_wp2_with (at_builtin; refine wpList_append_rows rfl _ _ boE rfl w.heap.size _ _ rfl HR6.out.here w5.heap.size _ [D] rfl HL6.out (by show _ * 2 ≤ _; simp only [List.length_cons, List.length_nil]; omega) ?_; intro v6 w6 r6 g6 at6)
        exact ⟨⟨i + 1, by omega, by simp, by rw [HST.out, Bool.true_and]; exact ⟨r6.own, HR6.out.bel.grown g6 HR6.out.le (fun k hk => (HR6.out.own.lt k hk).1), r6.le⟩⟩, by first | omega | (simp [intOf]; omega)⟩
    · go_wp2
      go_ret
      refine ⟨_, rfl, ?_⟩
      have hil : i = n := by omega
      rw [HE.out, ← hil]
      exact I

theorem soB_need {l : List Itm} {k : Nat} {x : Itm} (h : l[k]? = some x) : soB (needL l) (k : Int) = (decide (itemsOk l) && needB l k x) := by
  rw [soB_nat]
  have hk := (List.getElem?_eq_some_iff.1 h).1
  have : ∀ (n : Nat), k < n → n ≤ l.length → (needP l (decide (itemsOk l)) n)[k]? = some (decide (itemsOk l) && needB l k x) := by
    intro n
    induction n with
    | zero => intro h1; omega
    | succ m ih =>
      intro h1 h2
      have hm : l[m]? = some l[m] := List.getElem?_eq_getElem (by omega)
      rw [needP_step hm]
      have hl := needP_len l (decide (itemsOk l)) m (by omega)
      by_cases c : k < m
      · rw [List.getElem?_append_left (by omega)]
        exact ih c (by omega)
      · have e : k = m := by omega
        subst e
        rw [List.getElem?_append_right (by omega), hl, Nat.sub_self]
        rw [h] at hm
        cases hm
        rfl
  unfold needL
  rw [this l.length hk (Nat.le_refl _)]
  cases (decide (itemsOk l) && needB l k x) <;> rfl
theorem soB_out {d : List Bool} {k : Int} (h : ¬ (0 ≤ k ∧ k ≤ (d.length : Int) - 1)) : soB d k = false := by
  unfold soB
  refine decide_eq_false (fun c => h ⟨c.1, ?_⟩)
  have := (List.getElem?_eq_some_iff.1 c.2).1
  omega

set_option maxRecDepth 100000 in
set_option maxHeartbeats 4000000 in
theorem specNeeded_any (l : List Itm) (v : Value) (k : Int) (w : World) (h : Rows' itE w v l) (hl : l.length ≤ 1048576) (hz : ∀ x ∈ l, x.2.user.size ≤ 1048576 ∧ x.2.name.size ≤ 1048576 ∧ x.2.text.size ≤ 1048576) :
    Calls Try.prog 17 #[v, .int .i64 k] w fun e w' => e = .returned (.bool (soB (needL l) k)) ∧ Below w.heap.size w w' := by
  have HIO := Lib.hid (specItemsOk_any l v w h (by omega) (fun y hy => by have := hz y hy; omega))
  have HND : Hid (itemsOk l → ∀ (k : Nat) (y : Itm), l[k]? = some y → ∀ x, Below w.heap.size w x → Calls Try.prog 46 #[v, .int .i64 (k : Int)] x fun e w' => e = .returned (.bool (needB l k y)) ∧ Below x.heap.size x w') := fun hok k y hk x hx => specNeed_any l v k y x (h.later hx) hl hk ((hok.1 y (List.mem_of_getElem? hk)).2.1)
  have HLN := Lib.hid (needL_len l)
  obtain ⟨ad, cap, rfl, _⟩ := h.items
  clear h hz
  by_cases hin : 0 ≤ k ∧ k ≤ (l.length : Int) - 1
  · obtain ⟨q, rfl⟩ : ∃ q : Nat, k = (q : Int) := ⟨k.toNat, by omega⟩
    obtain ⟨x, hx⟩ : ∃ x, l[q]? = some x := ⟨_, List.getElem?_eq_getElem (by omega)⟩
    rw [soB_need hx]
    by_cases hok : itemsOk l
    · have HNK := Lib.hid (fun X hX => HND.out hok q x hx X hX)
      rw [decide_eq_true hok] at HIO ⊢
      rw [Bool.true_and]
      generalize needB l q x = D at HNK ⊢
      clear hx hok HND HLN
      have hwr : IntKind.i64.wrap ((l.length : Int) - 1) = (l.length : Int) - 1 := IntWalk.i64_in _ ⟨by omega, by omega⟩
      go_enter Try.func17, Try.ntmps17
      go_wp2_with fail
      refine HIO.out.mono ?_
      rintro e w1 ⟨rfl, k1⟩
      go_wp2_with fail
      refine (l01In_yes _ _ _ _ (by omega) (by omega)).mono ?_
      rintro e w2 ⟨rfl, rfl⟩
      go_wp2_with fail
      refine (HNK.out _ k1).mono ?_
      rintro e w3 ⟨rfl, k3⟩
      have bE := k1.trans (k3.mono k1.size)
      go_wp2
      go_ret
      exact ⟨rfl, bE⟩
    · rw [decide_eq_false hok] at HIO ⊢
      rw [Bool.false_and]
      clear hx hok HND HLN
      go_enter Try.func17, Try.ntmps17
      go_wp2_with fail
      refine HIO.out.mono ?_
      rintro e w1 ⟨rfl, k1⟩
      go_wp2
      go_ret
      exact ⟨rfl, k1⟩
  · rw [soB_out (by rw [HLN.out]; exact hin)]
    generalize decide (itemsOk l) = ok at HIO
    clear HND HLN
    cases ok with
    | true =>
      have hwr : IntKind.i64.wrap ((l.length : Int) - 1) = (l.length : Int) - 1 := IntWalk.i64_in _ ⟨by omega, by omega⟩
      go_enter Try.func17, Try.ntmps17
      go_wp2_with fail
      refine HIO.out.mono ?_
      rintro e w1 ⟨rfl, k1⟩
      go_wp2_with fail
      refine (l01In_no _ _ _ _ (by omega)).mono ?_
      rintro e w2 ⟨rfl, rfl⟩
      go_wp2
      go_ret
      exact ⟨rfl, k1⟩
    | false =>
      go_enter Try.func17, Try.ntmps17
      go_wp2_with fail
      refine HIO.out.mono ?_
      rintro e w1 ⟨rfl, k1⟩
      go_wp2
      go_ret
      exact ⟨rfl, k1⟩

end Go.Proofs.Ytjfilicddnhniab

/- What is needed is what tells its subject, and is wanted. -/
namespace Go.Proofs.Ytjfilicddnhniab

def noBig (l : List Itm) (x : Itm) : Bool := !(l.any fun y => decide (sjOf y = sjOf x) && bigB y x)
def othS (rK rV : Int) (y : Itm) : Bool := decide (y.2.valid = rV ∧ y.2.kind ≠ rK)
def wantO (l : List Itm) (f : Int × Int × Int → Option Nat) (x : Itm) : Bool :=
  if x.2.kind = 1 then boxO f x.2.valid else if x.2.kind = 2 then l.any (othS x.2.kind x.2.valid) else if x.2.kind = 5 then addO f x.2.valid x.2.uid else mailO f x.2.valid x.2.uid

theorem noBig_iff {l : List Itm} {x : Itm} : noBig l x = true ↔ ∀ y ∈ l, sjOf y = sjOf x → bigB y x = false := by
  unfold noBig
  rw [Bool.not_eq_true', List.any_eq_false]
  constructor
  · intro h y hy e
    have := h y hy
    simp only [Bool.and_eq_true, decide_eq_true_eq, not_and, Bool.not_eq_true] at this
    exact this e
  · intro h y hy
    simp only [Bool.and_eq_true, decide_eq_true_eq, not_and, Bool.not_eq_true]
    exact h y hy
theorem bigB_eq {a b : Itm} (h1 : bigB a b = false) (h2 : bigB b a = false) : a.1 = b.1 := by
  unfold bigB aheadB at *
  simp only [decide_eq_false_iff_not] at *
  omega

theorem tel_iff {l : List Itm} (hu : Uniq l) {i : Nat} {x : Itm} (hx : l[i]? = some x) : decide (telP l l.length (sjOf x) = some i) = (firstB l i x && noBig l x) := by
  have hi : i < l.length := (List.getElem?_eq_some_iff.1 hx).1
  have hxl : x ∈ l := List.mem_of_getElem? hx
  rcases telI l l.length (Nat.le_refl _) (sjOf x) with ⟨h1, h2⟩ | ⟨j, z, h1, h2, h3, h4, h5, h6⟩
  · exact absurd rfl (h2 i x hi hx)
  · have hzl : z ∈ l := List.mem_of_getElem? h3
    have hbig : ∀ y ∈ l, sjOf y = sjOf x → bigB y z = false := fun y hy e => by
      obtain ⟨q, hq⟩ := List.mem_iff_getElem?.1 hy
      exact h5 q y (List.getElem?_eq_some_iff.1 hq).1 hq e
    by_cases hji : j = i
    · subst hji
      have hzx : z = x := Option.some.inj (h3.symm.trans hx)
      subst hzx
      rw [decide_eq_true h1]
      have hf : firstB l j z = true := by
        unfold firstB
        have : (l.take j).any (fun y => decide (y.1 = z.1)) = false := by
          rw [List.any_eq_false]
          intro y hy
          simp only [decide_eq_true_eq]
          intro e
          obtain ⟨q, hq⟩ := List.mem_iff_getElem?.1 hy
          have hql : q < j := by have := (List.getElem?_eq_some_iff.1 hq).1; rw [List.length_take] at this; omega
          rw [List.getElem?_take_of_lt hql] at hq
          have hyz : y = z := hu y (List.mem_of_getElem? hq) z hzl e
          have := h6 q y hql hq (by rw [hyz])
          rw [hyz, bigB_self] at this
          cases this
        rw [this]; rfl
      rw [hf, noBig_iff.2 hbig]; rfl
    · rw [h1, decide_eq_false (fun e => hji (Option.some.inj e))]
      symm
      rw [Bool.and_eq_false_iff]
      by_cases hn : noBig l x = true
      · left
        have hzx : z = x := hu z hzl x hxl (bigB_eq (noBig_iff.1 hn z hzl h4) (hbig x hxl rfl))
        have hlt : j < i := by
          rcases Nat.lt_or_gt_of_ne hji with h | h
          · exact h
          · have := h6 i x h hx rfl
            rw [hzx, bigB_self] at this
            cases this
        unfold firstB
        rw [List.any_eq_true.2 ⟨z, List.mem_of_getElem? (i := j) (by rw [List.getElem?_take_of_lt hlt]; exact h3), by rw [hzx]; simp⟩]
        rfl
      · right
        exact Bool.eq_false_iff.2 hn

theorem tel_has {l : List Itm} (k v u : Int) : (telP l l.length (k, v, u)).isSome = hasO l k v u := by
  unfold hasO
  rcases telI l l.length (Nat.le_refl _) (k, v, u) with ⟨h1, h2⟩ | ⟨j, z, h1, h2, h3, h4, _⟩
  · rw [h1]
    cases hb : bestR k v u l with
    | none => rfl
    | some y =>
      obtain ⟨hy, e, _⟩ := bestR_some hb
      obtain ⟨q, hq⟩ := List.mem_iff_getElem?.1 hy
      exact absurd (by unfold sjOf; rw [e.1, e.2.1, e.2.2]) (h2 q y (List.getElem?_eq_some_iff.1 hq).1 hq)
  · rw [h1]
    have e : z.2.kind = k ∧ z.2.valid = v ∧ z.2.uid = u := by unfold sjOf at h4; simpa using h4
    obtain ⟨y, hy⟩ := bestR_there (List.mem_of_getElem? h3) e
    rw [hy]
    rfl

theorem ok_next {r : Rc} (h : r.ok) (hk : r.kind ≠ 1) : r.next = 0 := by
  have := h.2.2.1
  rw [if_neg hk] at this
  exact this.2.2
theorem ok_uid {r : Rc} (h : r.ok) (hk : r.kind < 3) : r.uid = 0 := by
  have := h.2.2.2.1
  rw [if_neg (by omega)] at this
  exact this

theorem seq_noBig {l : List Itm} (hok : ∀ y ∈ l, y.2.ok) {x : Itm} (hx : x ∈ l) (hk : x.2.kind ≠ 1) : seqB (bestR x.2.kind x.2.valid x.2.uid l) x = noBig l x := by
  obtain ⟨b, hb⟩ := bestR_there hx ⟨rfl, rfl, rfl⟩
  obtain ⟨hbl, hbe, hbm⟩ := bestR_some hb
  rw [hb]
  have hnx : ∀ y ∈ l, sjOf y = sjOf x → y.2.next = 0 := fun y hy e => ok_next (hok y hy) (by
    have : y.2.kind = x.2.kind := congrArg Prod.fst e
    rw [this]; exact hk)
  have hx0 := hnx x hx rfl
  have hxb : x.1 ≤ b.1 := hbm x hx rfl rfl rfl
  by_cases hn : noBig l x = true
  · rw [hn]
    have hs : sjOf b = sjOf x := by unfold sjOf; rw [hbe.1, hbe.2.1, hbe.2.2]
    have h1 := noBig_iff.1 hn b hbl hs
    have hb0 := hnx b hbl hs
    unfold bigB aheadB at h1
    simp only [decide_eq_false_iff_not] at h1
    show decide (b.1 = x.1) = true
    exact decide_eq_true (by omega)
  · rw [Bool.eq_false_iff.2 hn]
    show decide (b.1 = x.1) = false
    refine decide_eq_false (fun e => hn (noBig_iff.2 fun y hy hs => ?_))
    have h1 := hbm y hy (congrArg Prod.fst hs) (congrArg (fun s => s.2.1) hs) (congrArg (fun s => s.2.2) hs)
    have hy0 := hnx y hy hs
    unfold bigB aheadB
    simp only [decide_eq_false_iff_not]
    omega

theorem need_iff {l : List Itm} (hok : ∀ y ∈ l, y.2.ok) {x : Itm} (hx : x ∈ l) : needO l x = (noBig l x && wantO l (telP l l.length) x) := by
  have hb : ∀ v, boxO (telP l l.length) v = thereO l v := fun v => by unfold boxO thereO; rw [tel_has, tel_has]
  have ha : ∀ v u, addO (telP l l.length) v u = (thereO l v && hasO l 3 v u) := fun v u => by unfold addO; rw [hb, tel_has]
  have hm : ∀ v u, mailO (telP l l.length) v u = ((thereO l v && hasO l 3 v u) && !hasO l 5 v u) := fun v u => by unfold mailO; rw [ha, tel_has]
  have hxo := hok x hx
  unfold needO wantO
  by_cases h1 : x.2.kind = 1
  · rw [if_pos h1, if_pos h1, hb]
    congr 1
    unfold anyBig noBig
    congr 1
    have : ∀ y ∈ l, (decide (y.2.kind = 1 ∧ y.2.valid = x.2.valid) && bigB y x) = (decide (sjOf y = sjOf x) && bigB y x) := fun y hy => by
      congr 1
      apply decide_eq_decide.2
      unfold sjOf
      constructor
      · rintro ⟨e1, e2⟩
        rw [e1, e2, h1, ok_uid (hok y hy) (by omega), ok_uid hxo (by omega)]
      · intro e
        simp only [Prod.mk.injEq] at e
        exact ⟨by omega, e.2.1⟩
    rw [Bool.eq_iff_iff, List.any_eq_true, List.any_eq_true]
    constructor
    · rintro ⟨y, hy, e⟩; exact ⟨y, hy, by rw [← this y hy]; exact e⟩
    · rintro ⟨y, hy, e⟩; exact ⟨y, hy, by rw [this y hy]; exact e⟩
  · rw [if_neg h1, if_neg h1]
    by_cases h2 : x.2.kind = 2
    · rw [if_pos h2, if_pos h2]
      have hsb := seq_noBig hok hx h1
      rw [h2, ok_uid hxo (by omega)] at hsb
      rw [hsb, Bool.and_comm]
      congr 1
      unfold anyOther
      rw [h2, Bool.eq_iff_iff, List.any_eq_true, List.any_eq_true]
      constructor
      · rintro ⟨y, hy, e⟩; exact ⟨y, hy, by unfold othS; simp only [decide_eq_true_eq] at e ⊢; exact ⟨e.2, e.1⟩⟩
      · rintro ⟨y, hy, e⟩; exact ⟨y, hy, by unfold othS at e; simp only [decide_eq_true_eq] at e ⊢; exact ⟨e.2, e.1⟩⟩
    · rw [if_neg h2, if_neg h2]
      have hsb := seq_noBig hok hx h1
      by_cases h5 : x.2.kind = 5
      · rw [if_pos h5, if_pos h5, ha]
        rw [h5] at hsb
        rw [hsb, Bool.and_comm]
      · rw [if_neg h5, if_neg h5, hm, hsb, Bool.and_comm]

theorem needB_iff {l : List Itm} (hok : itemsOk l) {i : Nat} {x : Itm} (hx : l[i]? = some x) : needB l i x = (decide (telP l l.length (sjOf x) = some i) && wantO l (telP l l.length) x) := by
  rw [tel_iff hok.2.1 hx]
  unfold needB
  rw [need_iff (fun y hy => (hok.1 y hy).2) (List.mem_of_getElem? hx), Bool.and_assoc]

end Go.Proofs.Ytjfilicddnhniab

/- Records and items: the helpers of the exact laws. -/
namespace Go.Proofs.Ytjfilicddnhniab
open Go.RowKit

set_option maxRecDepth 100000 in
set_option maxHeartbeats 1000000 in
theorem szRec_any (r : Rc) (left : Int) (w : World) (s1 : r.user.size ≤ 9223372036854775807) (s2 : r.name.size ≤ 9223372036854775807) (s3 : r.text.size ≤ 9223372036854775807) (h0 : 0 ≤ left) (h1 : left ≤ 1099511627776) :
    Calls Try.prog 67 #[r.v, .int .i64 left] w fun e w' => (∃ x : Int, e = .returned (.int .i64 x) ∧ (x < 0 ∨ (r.user.size : Int) + r.name.size + r.text.size ≤ left) ∧ -1 ≤ x ∧ x ≤ left) ∧ Below w.heap.size w w' := by
  have b0 : Below w.heap.size w (w.alloc (.cells #[.int .i64 r.kind, .int .i64 r.valid, .int .i64 r.uid, .int .i64 r.next, .int .i64 r.flags, .string r.user, .string r.name, .string r.text] 73)) := belNew _ _
  unfold Rc.v
  by_cases hA : (r.user.size : Int) ≤ left
  · by_cases hB : (r.name.size : Int) ≤ left - r.user.size
    · by_cases hC : (r.text.size : Int) ≤ left - r.user.size - r.name.size
      · go_enter Try.func67, Try.ntmps67
        go_wp2
        go_ret
        exact ⟨⟨left - r.user.size - r.name.size - r.text.size, rfl, .inr (by omega), by omega, by omega⟩, b0⟩
      · go_enter Try.func67, Try.ntmps67
        go_wp2
        go_ret
        exact ⟨⟨-1, rfl, .inl (by omega), by omega, by omega⟩, b0⟩
    · go_enter Try.func67, Try.ntmps67
      go_wp2
      go_ret
      exact ⟨⟨-1, rfl, .inl (by omega), by omega, by omega⟩, b0⟩
  · go_enter Try.func67, Try.ntmps67
    go_wp2
    go_ret
    exact ⟨⟨-1, rfl, .inl (by omega), by omega, by omega⟩, b0⟩

set_option maxRecDepth 100000 in
set_option maxHeartbeats 1000000 in
theorem toRec_any (r : Rc) (w : World) : Calls Try.prog 73 #[r.v] w fun e w' => e = .returned r.v ∧ Below w.heap.size w w' := by
  unfold Rc.v
  go_enter Try.func73, Try.ntmps73
  go_wp2
  refine bodyPost_ret (v := .agg #[.int .i64 r.kind, .int .i64 r.valid, .int .i64 r.uid, .int .i64 r.next, .int .i64 r.flags, .string r.user, .string r.name, .string r.text]) (by simp [results, Try.results73, go_sem]) rfl ?_
  exact ⟨rfl, (((Below.refl _ _).alloc (Nat.le_refl _) _).alloc (by simp) _).alloc (by simp; omega) _⟩

set_option maxRecDepth 100000 in
set_option maxHeartbeats 1000000 in
theorem eqRec_same (r : Rc) (w : World) : Calls Try.prog 58 #[r.v, r.v] w fun e w' => e = .returned (.bool true) ∧ Below w.heap.size w w' := by
  unfold Rc.v
  go_enter Try.func58, Try.ntmps58
  go_wp2
  go_ret
  exact ⟨rfl, ((Below.refl _ _).alloc (Nat.le_refl _) _).alloc (by simp) _⟩

set_option maxRecDepth 100000 in
set_option maxHeartbeats 1000000 in
theorem szItem_any (seq : Int) (r : Rc) (left : Int) (w : World) (s1 : r.user.size ≤ 9223372036854775807) (s2 : r.name.size ≤ 9223372036854775807) (s3 : r.text.size ≤ 9223372036854775807) (h0 : 0 ≤ left) (h1 : left ≤ 1099511627776) :
    Calls Try.prog 44 #[itV seq r, .int .i64 left] w fun e w' => (∃ x : Int, e = .returned (.int .i64 x) ∧ (x < 0 ∨ (r.user.size : Int) + r.name.size + r.text.size ≤ left) ∧ -1 ≤ x ∧ x ≤ left) ∧ Below w.heap.size w w' := by
  have b0 : Below w.heap.size w (w.alloc (.cells #[.int .i64 seq, .int .i64 r.kind, .int .i64 r.valid, .int .i64 r.uid, .int .i64 r.next, .int .i64 r.flags, .string r.user, .string r.name, .string r.text] 75)) := belNew _ _
  have HS := Lib.hid (fun wx => szRec_any r left wx s1 s2 s3 h0 h1)
  unfold Rc.v at HS
  unfold itV
  go_enter Try.func44, Try.ntmps44
  go_wp2_with fail
  generalize w.alloc (.cells #[.int .i64 seq, .int .i64 r.kind, .int .i64 r.valid, .int .i64 r.uid, .int .i64 r.next, .int .i64 r.flags, .string r.user, .string r.name, .string r.text] 75) = W at b0 ⊢
  refine (HS.out _).mono ?_
  rintro e w1 ⟨⟨x, rfl, hx, hx1, hx2⟩, k1⟩
  have BB := Lib.hid (b0.trans (k1.mono b0.size))
  clear k1 b0 HS
  by_cases hn : x < 0
  · have HX := Lib.hid hx
    clear hx
    go_wp2
    go_ret
    exact ⟨⟨-1, rfl, .inl (by omega), by omega, by omega⟩, BB.out⟩
  · have HX := Lib.hid hx
    clear hx
    go_wp2
    go_ret
    exact ⟨⟨x, rfl, HX.out, hx1, hx2⟩, BB.out⟩

set_option maxRecDepth 100000 in
set_option maxHeartbeats 2000000 in
theorem toItem_any (seq : Int) (r : Rc) (w : World) : Calls Try.prog 47 #[itV seq r] w fun e w' => e = .returned (itV seq r) ∧ Below w.heap.size w w' := by
  have HT := Lib.hid (fun wx => toRec_any r wx)
  have hA := Box.new w #[.int .i64 seq, .int .i64 r.kind, .int .i64 r.valid, .int .i64 r.uid, .int .i64 r.next, .int .i64 r.flags, .string r.user, .string r.name, .string r.text] 75
  have bA := belNew w (.cells #[.int .i64 seq, .int .i64 r.kind, .int .i64 r.valid, .int .i64 r.uid, .int .i64 r.next, .int .i64 r.flags, .string r.user, .string r.name, .string r.text] 75)
  have hB := Box.new (w.alloc (.cells #[.int .i64 seq, .int .i64 r.kind, .int .i64 r.valid, .int .i64 r.uid, .int .i64 r.next, .int .i64 r.flags, .string r.user, .string r.name, .string r.text] 75)) #[.int .i64 0, .int .i64 0, .int .i64 0, .int .i64 0, .int .i64 0, .int .i64 0, .string ⟨#[]⟩, .string ⟨#[]⟩, .string ⟨#[]⟩] 79
  have bB := bA.trans ((belNew (w.alloc (.cells #[.int .i64 seq, .int .i64 r.kind, .int .i64 r.valid, .int .i64 r.uid, .int .i64 r.next, .int .i64 r.flags, .string r.user, .string r.name, .string r.text] 75)) (.cells #[.int .i64 0, .int .i64 0, .int .i64 0, .int .i64 0, .int .i64 0, .int .i64 0, .string ⟨#[]⟩, .string ⟨#[]⟩, .string ⟨#[]⟩] 79)).mono bA.size)
  have hC := Box.new ((w.alloc (.cells #[.int .i64 seq, .int .i64 r.kind, .int .i64 r.valid, .int .i64 r.uid, .int .i64 r.next, .int .i64 r.flags, .string r.user, .string r.name, .string r.text] 75)).alloc (.cells #[.int .i64 0, .int .i64 0, .int .i64 0, .int .i64 0, .int .i64 0, .int .i64 0, .string ⟨#[]⟩, .string ⟨#[]⟩, .string ⟨#[]⟩] 79)) #[.int .i64 seq, .int .i64 0, .int .i64 0, .int .i64 0, .int .i64 0, .int .i64 0, .string ⟨#[]⟩, .string ⟨#[]⟩, .string ⟨#[]⟩] 79
  have bC := bB.trans ((belNew ((w.alloc (.cells #[.int .i64 seq, .int .i64 r.kind, .int .i64 r.valid, .int .i64 r.uid, .int .i64 r.next, .int .i64 r.flags, .string r.user, .string r.name, .string r.text] 75)).alloc (.cells #[.int .i64 0, .int .i64 0, .int .i64 0, .int .i64 0, .int .i64 0, .int .i64 0, .string ⟨#[]⟩, .string ⟨#[]⟩, .string ⟨#[]⟩] 79)) (.cells #[.int .i64 seq, .int .i64 0, .int .i64 0, .int .i64 0, .int .i64 0, .int .i64 0, .string ⟨#[]⟩, .string ⟨#[]⟩, .string ⟨#[]⟩] 79)).mono bB.size)
  have hB' := hB.later (belNew _ (.cells #[.int .i64 seq, .int .i64 0, .int .i64 0, .int .i64 0, .int .i64 0, .int .i64 0, .string ⟨#[]⟩, .string ⟨#[]⟩, .string ⟨#[]⟩] 79))
  have e1 : (w.alloc (.cells #[.int .i64 seq, .int .i64 r.kind, .int .i64 r.valid, .int .i64 r.uid, .int .i64 r.next, .int .i64 r.flags, .string r.user, .string r.name, .string r.text] 75)).heap.size = w.heap.size + 1 := by simp
  have e2 : ((w.alloc (.cells #[.int .i64 seq, .int .i64 r.kind, .int .i64 r.valid, .int .i64 r.uid, .int .i64 r.next, .int .i64 r.flags, .string r.user, .string r.name, .string r.text] 75)).alloc (.cells #[.int .i64 0, .int .i64 0, .int .i64 0, .int .i64 0, .int .i64 0, .int .i64 0, .string ⟨#[]⟩, .string ⟨#[]⟩, .string ⟨#[]⟩] 79)).heap.size = w.heap.size + 1 + 1 := by simp
  rw [e1] at hB'
  rw [e2] at hC
  clear hA bA hB bB e1 e2
  unfold Rc.v at HT
  unfold itV
  go_enter Try.func47, Try.ntmps47
  go_wp2_with fail
  generalize ((w.alloc (.cells #[.int .i64 seq, .int .i64 r.kind, .int .i64 r.valid, .int .i64 r.uid, .int .i64 r.next, .int .i64 r.flags, .string r.user, .string r.name, .string r.text] 75)).alloc (.cells #[.int .i64 0, .int .i64 0, .int .i64 0, .int .i64 0, .int .i64 0, .int .i64 0, .string ⟨#[]⟩, .string ⟨#[]⟩, .string ⟨#[]⟩] 79)).alloc (.cells #[.int .i64 seq, .int .i64 0, .int .i64 0, .int .i64 0, .int .i64 0, .int .i64 0, .string ⟨#[]⟩, .string ⟨#[]⟩, .string ⟨#[]⟩] 79) = W at hB' hC bC ⊢
  refine (HT.out _).mono ?_
  rintro e w1 ⟨rfl, k1⟩
  obtain ⟨u0, u1, u2, u3, u4, u5, u6, u7, u8, v0, v1, v2, v3, v4, v5, v6, v7, v8⟩ := (hB'.later k1).nine
  obtain ⟨x0, x1, x2, x3, x4, x5, x6, x7, x8, y0, y1, y2, y3, y4, y5, y6, y7, y8⟩ := (hC.later k1).nine
  have BB := Lib.hid (bC.trans (k1.mono bC.size))
  clear hB' hC bC k1 HT
  go_wp2
  refine bodyPost_ret (v := .agg #[.int .i64 seq, .int .i64 r.kind, .int .i64 r.valid, .int .i64 r.uid, .int .i64 r.next, .int .i64 r.flags, .string r.user, .string r.name, .string r.text]) (by simp [results, Try.results47, go_sem, u0, u1, u2, u3, u4, u5, u6, u7, u8]) rfl ?_
  refine ⟨rfl, ?_⟩
  have l1 : w.heap.size ≤ w.heap.size + 1 := by omega
  have l2 : w.heap.size ≤ w.heap.size + 1 + 1 := by omega
  repeat' first | (with_reducible exact BB.out) | (with_reducible refine Below.setCell ?_ (by first | exact l1 | exact l2) _)

set_option maxRecDepth 100000 in
set_option maxHeartbeats 1000000 in
theorem eqItem_same (seq : Int) (r : Rc) (w : World) : Calls Try.prog 49 #[itV seq r, itV seq r] w fun e w' => e = .returned (.bool true) ∧ Below w.heap.size w w' := by
  have HT := Lib.hid (fun wx => eqRec_same r wx)
  have bA := belNew w (.cells #[.int .i64 seq, .int .i64 r.kind, .int .i64 r.valid, .int .i64 r.uid, .int .i64 r.next, .int .i64 r.flags, .string r.user, .string r.name, .string r.text] 79)
  have bB := bA.trans ((belNew (w.alloc (.cells #[.int .i64 seq, .int .i64 r.kind, .int .i64 r.valid, .int .i64 r.uid, .int .i64 r.next, .int .i64 r.flags, .string r.user, .string r.name, .string r.text] 79)) (.cells #[.int .i64 seq, .int .i64 r.kind, .int .i64 r.valid, .int .i64 r.uid, .int .i64 r.next, .int .i64 r.flags, .string r.user, .string r.name, .string r.text] 79)).mono bA.size)
  clear bA
  unfold Rc.v at HT
  unfold itV
  go_enter Try.func49, Try.ntmps49
  go_wp2_with fail
  generalize (w.alloc (.cells #[.int .i64 seq, .int .i64 r.kind, .int .i64 r.valid, .int .i64 r.uid, .int .i64 r.next, .int .i64 r.flags, .string r.user, .string r.name, .string r.text] 79)).alloc (.cells #[.int .i64 seq, .int .i64 r.kind, .int .i64 r.valid, .int .i64 r.uid, .int .i64 r.next, .int .i64 r.flags, .string r.user, .string r.name, .string r.text] 79) = W at bB ⊢
  refine (HT.out _).mono ?_
  rintro e w1 ⟨rfl, k1⟩
  have BB := Lib.hid (bB.trans (k1.mono bB.size))
  clear bB k1 HT
  go_wp2
  go_ret
  exact ⟨rfl, BB.out⟩

end Go.Proofs.Ytjfilicddnhniab

/- How records lie in memory; two lists of records that are alike. -/
namespace Go.Proofs.Ytjfilicddnhniab
open Go.RowKit

def rcE : Enc Rc where
  ty := 77
  sty := 50
  sz := 8
  bytes := 88
  zero := .agg #[.int .i64 0, .int .i64 0, .int .i64 0, .int .i64 0, .int .i64 0, .string ⟨#[]⟩, .string ⟨#[]⟩, .string ⟨#[]⟩]
  f := fun x => [.int .i64 x.kind, .int .i64 x.valid, .int .i64 x.uid, .int .i64 x.next, .int .i64 x.flags, .string x.user, .string x.name, .string x.text]
  len := fun _ => rfl
  pos := by decide
  one := fun _ u hu => by simp at hu; rcases hu with rfl | rfl | rfl | rfl | rfl | rfl | rfl | rfl <;> rfl
  und := Try.underlying50
  info := by kernel_rfl
  zc := rfl
  z0 := Rc.nil
  zf := rfl

/-- The eight cells of a record. -/
theorem rc_cells {w w' : World} {g off : Nat} {l : List Rc} (hc : ∀ j x, l[j]? = some x → ∀ k u, (rcE.f x)[k]? = some u → w.cell? ⟨g, off + j * rcE.sz + k, none⟩ = some u)
    (hg : g < w.heap.size) (hb : Below w.heap.size w w') (i : Nat) (x : Rc) (hi : l[i]? = some x) :
    w'.cell? ⟨g, off + i * 8, none⟩ = some (.int .i64 x.kind) ∧ w'.cell? ⟨g, off + i * 8 + 1, none⟩ = some (.int .i64 x.valid) ∧ w'.cell? ⟨g, off + i * 8 + 2, none⟩ = some (.int .i64 x.uid) ∧ w'.cell? ⟨g, off + i * 8 + 3, none⟩ = some (.int .i64 x.next) ∧
    w'.cell? ⟨g, off + i * 8 + 4, none⟩ = some (.int .i64 x.flags) ∧ w'.cell? ⟨g, off + i * 8 + 5, none⟩ = some (.string x.user) ∧ w'.cell? ⟨g, off + i * 8 + 6, none⟩ = some (.string x.name) ∧ w'.cell? ⟨g, off + i * 8 + 7, none⟩ = some (.string x.text) := by
  have h : ∀ k u, (rcE.f x)[k]? = some u → w'.cell? ⟨g, off + i * 8 + k, none⟩ = some u := fun k u hu => (hb.cell (p := ⟨g, off + i * 8 + k, none⟩) hg).trans (hc i x hi k u hu)
  exact ⟨h 0 _ rfl, h 1 _ rfl, h 2 _ rfl, h 3 _ rfl, h 4 _ rfl, h 5 _ rfl, h 6 _ rfl, h 7 _ rfl⟩

/-- As a loop reads them. -/
def RcRow (w : World) (ad : Option Addr) (l : List Rc) : Prop := ∀ X, Below w.heap.size w X → ∀ (i : Nat) (x : Rc), l[i]? = some x → ∃ (g off : Nat), ad = some ⟨g, off, none⟩ ∧ X.cell? ⟨g, off + i * 8, none⟩ = some (.int .i64 x.kind) ∧ X.cell? ⟨g, off + i * 8 + 1, none⟩ = some (.int .i64 x.valid) ∧ X.cell? ⟨g, off + i * 8 + 2, none⟩ = some (.int .i64 x.uid) ∧ X.cell? ⟨g, off + i * 8 + 3, none⟩ = some (.int .i64 x.next) ∧ X.cell? ⟨g, off + i * 8 + 4, none⟩ = some (.int .i64 x.flags) ∧ X.cell? ⟨g, off + i * 8 + 5, none⟩ = some (.string x.user) ∧ X.cell? ⟨g, off + i * 8 + 6, none⟩ = some (.string x.name) ∧ X.cell? ⟨g, off + i * 8 + 7, none⟩ = some (.string x.text)
theorem Rows'.recs {w : World} {v : Value} {l : List Rc} (h : Rows' rcE w v l) : ∃ (ad : Option Addr) (cap : Nat), v = .slice ad l.length cap ∧ RcRow w ad l := by
  rcases h.ways with ⟨rfl, a, c, rfl⟩ | ⟨hne, g, off, c, rfl, hc, hg, hcl⟩
  · exact ⟨a, c, rfl, fun X _ i x hi => by cases hi⟩
  · exact ⟨_, c, rfl, fun X hb i x hi => ⟨g, off, rfl, rc_cells (fun j x hj k u hu => hcl j x hj k u hu) hg hb i x hi⟩⟩

set_option maxRecDepth 100000 in
set_option maxHeartbeats 2000000 in
theorem eqRecS_same (l : List Rc) (va vb : Value) (w : World) (ha : Rows' rcE w va l) (hb : Rows' rcE w vb l) (hl : l.length ≤ 1099511627776) :
    Calls Try.prog 33 #[va, vb] w fun e w' => e = .returned (.bool true) ∧ Below w.heap.size w w' := by
  obtain ⟨ad, cap, rfl, hrowa⟩ := ha.recs
  obtain ⟨ad2, cap2, rfl, hrowb⟩ := hb.recs
  have HA := Lib.hid hrowa
  have HB := Lib.hid hrowb
  clear ha hb hrowa hrowb
  go_enter Try.func33, Try.ntmps33
  go_wp2
  go_loopw [5] (fun iv wr => ∃ i : Nat, i ≤ l.length ∧ iv = .int .i64 (i : Int) ∧ Below w.heap.size w wr) (fun iv _ => l.length - (intOf iv).toNat)
  case atStart => exact ⟨0, by omega, rfl, Below.refl _ _⟩
  case round =>
    obtain ⟨i, hi, rfl, hbel⟩ := hrel
    by_cases hlt : i < l.length
    · have hg : l[i]? = some l[i] := List.getElem?_eq_getElem hlt
      have hbd : Below w.heap.size w wr.drew := hbel.drew
      have HXA : Hid (∀ X, Below wr.drew.heap.size wr.drew X → ∃ ga oa gb ob, ad = some ⟨ga, oa, none⟩ ∧ ad2 = some ⟨gb, ob, none⟩ ∧ (X.cell? ⟨ga, oa + i * 8, none⟩ = some (.int .i64 l[i].kind) ∧ X.cell? ⟨ga, oa + i * 8 + 1, none⟩ = some (.int .i64 l[i].valid) ∧ X.cell? ⟨ga, oa + i * 8 + 2, none⟩ = some (.int .i64 l[i].uid) ∧ X.cell? ⟨ga, oa + i * 8 + 3, none⟩ = some (.int .i64 l[i].next) ∧ X.cell? ⟨ga, oa + i * 8 + 4, none⟩ = some (.int .i64 l[i].flags) ∧ X.cell? ⟨ga, oa + i * 8 + 5, none⟩ = some (.string l[i].user) ∧ X.cell? ⟨ga, oa + i * 8 + 6, none⟩ = some (.string l[i].name) ∧ X.cell? ⟨ga, oa + i * 8 + 7, none⟩ = some (.string l[i].text)) ∧ (X.cell? ⟨gb, ob + i * 8, none⟩ = some (.int .i64 l[i].kind) ∧ X.cell? ⟨gb, ob + i * 8 + 1, none⟩ = some (.int .i64 l[i].valid) ∧ X.cell? ⟨gb, ob + i * 8 + 2, none⟩ = some (.int .i64 l[i].uid) ∧ X.cell? ⟨gb, ob + i * 8 + 3, none⟩ = some (.int .i64 l[i].next) ∧ X.cell? ⟨gb, ob + i * 8 + 4, none⟩ = some (.int .i64 l[i].flags) ∧ X.cell? ⟨gb, ob + i * 8 + 5, none⟩ = some (.string l[i].user) ∧ X.cell? ⟨gb, ob + i * 8 + 6, none⟩ = some (.string l[i].name) ∧ X.cell? ⟨gb, ob + i * 8 + 7, none⟩ = some (.string l[i].text))) := fun X hX => by
        obtain ⟨ga, oa, e1, p⟩ := HA.out X (hbd.trans (hX.mono hbd.size)) i _ hg
        obtain ⟨gb, ob, e2, q⟩ := HB.out X (hbd.trans (hX.mono hbd.size)) i _ hg
        exact ⟨ga, oa, gb, ob, e1, e2, p, q⟩
      have HE := Lib.hid (fun wx => eqRec_same l[i] wx)
      generalize l[i] = x at *
      obtain ⟨K, V, U, N, FL, US, NM, TX⟩ := x
      unfold Rc.v at HE
      simp only at HXA HE
      obtain ⟨ga, oa, gb, ob, rfl, rfl, p0, q0⟩ := HXA.out _ (Below.refl _ _)
      have HS : Hid (∀ X, Below wr.drew.heap.size wr.drew X → (X.cell? ⟨ga, oa + i * 8, none⟩ = some (.int .i64 K) ∧ X.cell? ⟨ga, oa + i * 8 + 1, none⟩ = some (.int .i64 V) ∧ X.cell? ⟨ga, oa + i * 8 + 2, none⟩ = some (.int .i64 U) ∧ X.cell? ⟨ga, oa + i * 8 + 3, none⟩ = some (.int .i64 N) ∧ X.cell? ⟨ga, oa + i * 8 + 4, none⟩ = some (.int .i64 FL) ∧ X.cell? ⟨ga, oa + i * 8 + 5, none⟩ = some (.string US) ∧ X.cell? ⟨ga, oa + i * 8 + 6, none⟩ = some (.string NM) ∧ X.cell? ⟨ga, oa + i * 8 + 7, none⟩ = some (.string TX)) ∧ (X.cell? ⟨gb, ob + i * 8, none⟩ = some (.int .i64 K) ∧ X.cell? ⟨gb, ob + i * 8 + 1, none⟩ = some (.int .i64 V) ∧ X.cell? ⟨gb, ob + i * 8 + 2, none⟩ = some (.int .i64 U) ∧ X.cell? ⟨gb, ob + i * 8 + 3, none⟩ = some (.int .i64 N) ∧ X.cell? ⟨gb, ob + i * 8 + 4, none⟩ = some (.int .i64 FL) ∧ X.cell? ⟨gb, ob + i * 8 + 5, none⟩ = some (.string US) ∧ X.cell? ⟨gb, ob + i * 8 + 6, none⟩ = some (.string NM) ∧ X.cell? ⟨gb, ob + i * 8 + 7, none⟩ = some (.string TX))) := fun X hX => by
        obtain ⟨ga2, oa2, gb2, ob2, e1, e2, p, q⟩ := HXA.out X hX
        cases e1
        cases e2
        exact ⟨p, q⟩
      have hi0 : (0 : Int) ≤ (i : Int) := by omega
      have hi1 : (i : Int) < (l.length : Int) := by omega
      clear hg HXA p0 q0
      go_wp2
      go_region_held3 (fun X => (X.cell? ⟨ga, oa + i * 8, none⟩ = some (.int .i64 K) ∧ X.cell? ⟨ga, oa + i * 8 + 1, none⟩ = some (.int .i64 V) ∧ X.cell? ⟨ga, oa + i * 8 + 2, none⟩ = some (.int .i64 U) ∧ X.cell? ⟨ga, oa + i * 8 + 3, none⟩ = some (.int .i64 N) ∧ X.cell? ⟨ga, oa + i * 8 + 4, none⟩ = some (.int .i64 FL) ∧ X.cell? ⟨ga, oa + i * 8 + 5, none⟩ = some (.string US) ∧ X.cell? ⟨ga, oa + i * 8 + 6, none⟩ = some (.string NM) ∧ X.cell? ⟨ga, oa + i * 8 + 7, none⟩ = some (.string TX)) ∧ (X.cell? ⟨gb, ob + i * 8, none⟩ = some (.int .i64 K) ∧ X.cell? ⟨gb, ob + i * 8 + 1, none⟩ = some (.int .i64 V) ∧ X.cell? ⟨gb, ob + i * 8 + 2, none⟩ = some (.int .i64 U) ∧ X.cell? ⟨gb, ob + i * 8 + 3, none⟩ = some (.int .i64 N) ∧ X.cell? ⟨gb, ob + i * 8 + 4, none⟩ = some (.int .i64 FL) ∧ X.cell? ⟨gb, ob + i * 8 + 5, none⟩ = some (.string US) ∧ X.cell? ⟨gb, ob + i * 8 + 6, none⟩ = some (.string NM) ∧ X.cell? ⟨gb, ob + i * 8 + 7, none⟩ = some (.string TX)))
        (first | exact HS.out _ (Below.refl _ _) | exact HS.out _ hb1)
        (first | (go_at_call 58; refine (HE.out _).mono ?_; rintro e w1 ⟨rfl, hb1⟩))
      all_goals
        go_wp2
        go_roundw
        case rel => exact ⟨i + 1, by omega, by go_num, hbd.trans (hb1.mono hbd.size)⟩
        case measure => simp [intOf]; omega
    · go_wp2
      go_ret
      exact ⟨rfl, hbel⟩

end Go.Proofs.Ytjfilicddnhniab

/- How mails lie in memory. -/
namespace Go.Proofs.Ytjfilicddnhniab
open Go.RowKit

def mlE : Enc Ml where
  ty := 59
  sty := 55
  sz := 3
  bytes := 32
  zero := .agg #[.int .i64 0, .int .i64 0, .string ⟨#[]⟩]
  f := fun x => [.int .i64 x.uid, .int .i64 x.flags, .string x.text]
  len := fun _ => rfl
  pos := by decide
  one := fun _ u hu => by simp at hu; rcases hu with rfl | rfl | rfl <;> rfl
  und := Try.underlying55
  info := by kernel_rfl
  zc := rfl
  z0 := ⟨0, 0, ⟨#[]⟩⟩
  zf := rfl

end Go.Proofs.Ytjfilicddnhniab

/- How boxes lie in memory: a row of boxes, each with a row of mails of its own. -/
namespace Go.Proofs.Ytjfilicddnhniab
open Go.RowKit

/-- A box as it lies in its row: its mails are a slice. -/
structure BxH where
  valid : Int
  user : ByteArray
  name : ByteArray
  next : Int
  a : Option Addr
  n : Nat
  c : Nat
def BxH.mv (h : BxH) : Value := .slice h.a h.n h.c

def hdE : Enc BxH where
  ty := 57
  sty := 27
  sz := 5
  bytes := 72
  zero := .agg #[.int .i64 0, .string ⟨#[]⟩, .string ⟨#[]⟩, .int .i64 0, .slice none 0 0]
  f := fun x => [.int .i64 x.valid, .string x.user, .string x.name, .int .i64 x.next, .slice x.a x.n x.c]
  len := fun _ => rfl
  pos := by decide
  one := fun _ u hu => by simp at hu; rcases hu with rfl | rfl | rfl | rfl | rfl <;> rfl
  und := Try.underlying27
  info := by kernel_rfl
  zc := rfl
  z0 := ⟨0, ⟨#[]⟩, ⟨#[]⟩, 0, none, 0, 0⟩
  zf := rfl

/-- Boxes in memory of their own (blocks from B on): the row, and the mails of each, all apart. -/
structure StO (B : Nat) (w : World) (v : Value) (bs : List Bx) (hs : List BxH) : Prop where
  row : RBuf hdE B w w v hs
  len : hs.length = bs.length
  at' : ∀ (j : Nat) (h : BxH) (b : Bx), hs[j]? = some h → bs[j]? = some b → (h.valid = b.valid ∧ h.user = b.user ∧ h.name = b.name ∧ h.next = b.next) ∧ RBuf mlE B w w h.mv b.mails
  far : ∀ (j : Nat) (h : BxH), hs[j]? = some h → ∀ k, h.mv.ownBlock = some k → v.ownBlock ≠ some k
  apart : ∀ (i j : Nat) (h h' : BxH), hs[i]? = some h → hs[j]? = some h' → i ≠ j → ∀ k, h.mv.ownBlock = some k → h'.mv.ownBlock ≠ some k

theorem RBuf.here' {α : Type} {E : Enc α} {B : Nat} {w0 w w' : World} {v : Value} {l : List α} (h : RBuf E B w0 w v l) (hb : Below w.heap.size w w') : RBuf E B w' w' v l := (h.later hb).here
theorem StO.later {B : Nat} {w w' : World} {v : Value} {bs : List Bx} {hs : List BxH} (h : StO B w v bs hs) (hb : Below w.heap.size w w') : StO B w' v bs hs :=
  ⟨h.row.here' hb, h.len, fun j x b h1 h2 => ⟨(h.at' j x b h1 h2).1, (h.at' j x b h1 h2).2.here' hb⟩, h.far, h.apart⟩
theorem StO.nil (w : World) : StO w.heap.size w (.slice none 0 0) [] [] :=
  ⟨RBuf.nil hdE w, rfl, fun j h b h1 => by simp at h1, fun j h h1 => by simp at h1, fun i j h h' h1 => by simp at h1⟩
/-- The mails of a box lie below the heap's end. -/
theorem StO.lt {B : Nat} {w : World} {v : Value} {bs : List Bx} {hs : List BxH} (h : StO B w v bs hs) {j : Nat} {x : BxH} (hj : hs[j]? = some x) {k : Nat} (hk : x.mv.ownBlock = some k) : k < w.heap.size := by
  have hl : j < hs.length := (List.getElem?_eq_some_iff.1 hj).1
  have hb : bs[j]? = some (bs[j]'(by rw [← h.len]; exact hl)) := List.getElem?_eq_getElem _
  exact ((h.at' j x _ hj hb).2.own.lt k hk).2

/-- One box more: it was appended, its mails lying in memory of their own. -/
theorem StO.push {B : Nat} {w w' : World} {v v' : Value} {bs : List Bx} {hs : List BxH} (h : StO B w v bs hs) (b : Bx) (x : BxH)
    (hx : x.valid = b.valid ∧ x.user = b.user ∧ x.name = b.name ∧ x.next = b.next) (hm : RBuf mlE B w w x.mv b.mails)
    (hv : ∀ k, x.mv.ownBlock = some k → v.ownBlock ≠ some k) (ho : ∀ (j : Nat) (y : BxH), hs[j]? = some y → ∀ k, y.mv.ownBlock = some k → x.mv.ownBlock ≠ some k)
    (hr : RBuf hdE B w' w' v' (hs ++ [x])) (hg : w.grownBy w' v.ownBlock) (ha : v'.ownBlock = v.ownBlock ∨ v'.ownBlock = some w.heap.size) : StO B w' v' (bs ++ [b]) (hs ++ [x]) := by
  have kept : ∀ (m : Value) (l : List Ml), RBuf mlE B w w m l → (∀ k, m.ownBlock = some k → v.ownBlock ≠ some k) → RBuf mlE B w' w' m l := fun m l hm hf => by
    refine hm.shift hg ?_
    cases hmb : m.ownBlock with
    | none => exact .inl rfl
    | some k => exact .inr (fun e => hf k hmb e.symm)
  have old : ∀ {j : Nat} {y : BxH}, (hs ++ [x])[j]? = some y → (hs[j]? = some y ∧ j < hs.length) ∨ (j = hs.length ∧ y = x) := fun {j y} hj => by
    by_cases c : j < hs.length
    · rw [List.getElem?_append_left c] at hj
      exact .inl ⟨hj, c⟩
    · rw [List.getElem?_append_right (by omega)] at hj
      have hj0 : j - hs.length = 0 := by
        have := (List.getElem?_eq_some_iff.1 hj).1
        simp at this; omega
      rw [hj0] at hj
      simp at hj
      exact .inr ⟨by omega, hj.symm⟩
  have hvlt : ∀ {k : Nat}, x.mv.ownBlock = some k → k < w.heap.size := fun {k} hk => (hm.own.lt k hk).2
  refine ⟨hr, by simp [h.len], fun j y c h1 h2 => ?_, fun j y h1 k hk => ?_, fun i j y z h1 h2 hij k hk => ?_⟩
  · rcases old h1 with ⟨h3, hl⟩ | ⟨rfl, rfl⟩
    · rw [List.getElem?_append_left (by rw [← h.len]; exact hl)] at h2
      exact ⟨(h.at' j y c h3 h2).1, kept _ _ (h.at' j y c h3 h2).2 (h.far j y h3)⟩
    · rw [List.getElem?_append_right (by rw [h.len]; omega), h.len] at h2
      simp at h2
      subst h2
      exact ⟨hx, kept _ _ hm hv⟩
  · rcases old h1 with ⟨h3, _⟩ | ⟨_, rfl⟩
    · rcases ha with e | e
      · rw [e]; exact h.far j y h3 k hk
      · rw [e]; intro e2; have := h.lt h3 hk; have := Option.some.inj e2; omega
    · rcases ha with e | e
      · rw [e]; exact hv k hk
      · rw [e]; intro e2; have := hvlt hk; have := Option.some.inj e2; omega
  · rcases old h1 with ⟨h3, hl3⟩ | ⟨ei, rfl⟩
    · rcases old h2 with ⟨h4, _⟩ | ⟨_, rfl⟩
      · exact h.apart i j y z h3 h4 hij k hk
      · exact ho i y h3 k hk
    · rcases old h2 with ⟨h4, _⟩ | ⟨ej, _⟩
      · intro e; exact ho j z h4 k e hk
      · omega

end Go.Proofs.Ytjfilicddnhniab

/- Boxes in memory of their own: what leaves them as they are. -/
namespace Go.Proofs.Ytjfilicddnhniab
open Go.RowKit

/-- What leaves the boxes' and the mails' blocks alone leaves them as they are. -/
theorem StO.shift {B : Nat} {w w' : World} {v : Value} {bs : List Bx} {hs : List BxH} {r : Option Nat} (h : StO B w v bs hs) (hg : w.grownBy w' r) (h1 : ∀ k, r = some k → v.ownBlock ≠ some k ∧ ∀ (j : Nat) (x : BxH), hs[j]? = some x → x.mv.ownBlock ≠ some k) : StO B w' v bs hs := by
  have sh : ∀ {α : Type} {E : Enc α} {m : Value} {l : List α}, RBuf E B w w m l → (∀ k, r = some k → m.ownBlock ≠ some k) → RBuf E B w' w' m l := fun {α E m l} hm hf => by
    refine hm.shift hg ?_
    cases hb : m.ownBlock with
    | none => exact .inl rfl
    | some k => exact .inr (fun e => hf k e.symm hb)
  exact ⟨sh h.row (fun k hk => (h1 k hk).1), h.len, fun j x b e1 e2 => ⟨(h.at' j x b e1 e2).1, sh (h.at' j x b e1 e2).2 (fun k hk => (h1 k hk).2 j x e1)⟩, h.far, h.apart⟩
/-- Where they lie: from B on, and below the heap's end. -/
theorem StO.where' {B : Nat} {w : World} {v : Value} {bs : List Bx} {hs : List BxH} (h : StO B w v bs hs) : (∀ k, v.ownBlock = some k → B ≤ k ∧ k < w.heap.size) ∧ ∀ (j : Nat) (x : BxH), hs[j]? = some x → ∀ k, x.mv.ownBlock = some k → B ≤ k ∧ k < w.heap.size := by
  refine ⟨fun k hk => h.row.own.lt k hk, fun j x hj k hk => ?_⟩
  have hl : j < hs.length := (List.getElem?_eq_some_iff.1 hj).1
  have hb : bs[j]? = some (bs[j]'(by rw [← h.len]; exact hl)) := List.getElem?_eq_getElem _
  exact (h.at' j x _ hj hb).2.own.lt k hk
/-- What is written from B' on, above them, leaves them. -/
theorem StO.under {B C : Nat} {w w' : World} {v : Value} {bs : List Bx} {hs : List BxH} (h : StO B w v bs hs) (hb : Below C w w') (h1 : ∀ k, v.ownBlock = some k → k < C) (h2 : ∀ (j : Nat) (x : BxH), hs[j]? = some x → ∀ k, x.mv.ownBlock = some k → k < C) : StO B w' v bs hs := by
  have sh : ∀ {α : Type} {E : Enc α} {m : Value} {l : List α}, RBuf E B w w m l → (∀ k, m.ownBlock = some k → k < C) → RBuf E B w' w' m l := fun {α E m l} hm hf => by
    refine ⟨⟨hm.own.1, ?_⟩, Below.refl _ _, Nat.le_trans hm.le hb.size⟩
    rcases hm.own.2 with e | ⟨g, cap, cur, rfl, hg, hh, hrest⟩
    · exact .inl e
    · exact .inr ⟨g, cap, cur, rfl, hg, (hb.block g (hf g rfl)).trans hh, hrest⟩
  exact ⟨sh h.row h1, h.len, fun j x b e1 e2 => ⟨(h.at' j x b e1 e2).1, sh (h.at' j x b e1 e2).2 (h2 j x e1)⟩, h.far, h.apart⟩
theorem StO.lower {B B0 : Nat} {w : World} {v : Value} {bs : List Bx} {hs : List BxH} (h : StO B w v bs hs) (hB : B0 ≤ B) : StO B0 w v bs hs :=
  ⟨h.row.lower hB, h.len, fun j x b h1 h2 => ⟨(h.at' j x b h1 h2).1, (h.at' j x b h1 h2).2.lower hB⟩, h.far, h.apart⟩

end Go.Proofs.Ytjfilicddnhniab

/- What a list of numbers is that a call builds in memory of its own, and the laws by which it grows, is read and is written. -/
namespace Go.Proofs.Ytjfilicddnhniab
open Go.RowKit

theorem Try.info_int : (Try.prog.info? 3).map (fun i => (i.zero, i.size, i.bytes)) = some (some (.int .i64 0), 1, 8) := by kernel_rfl

def intV (l : List Int) : List Value := l.map fun c => .int .i64 c
theorem intV_length (l : List Int) : (intV l).length = l.length := by simp [intV]

/-- The slice v holds the numbers l in memory that the call made itself (blocks from B on); below B all is as it was in w0. -/
structure IBuf (B : Nat) (w0 w : World) (v : Value) (l : List Int) : Prop where
  own : w.ownsRow B 3 1 v l.length (intV l)
  bel : Below B w0 w
  le : B ≤ w.heap.size

theorem IBuf.alloc {B : Nat} {w0 w : World} {v : Value} {l : List Int} (h : IBuf B w0 w v l) (o : Obj) : IBuf B w0 (w.alloc o) v l :=
  ⟨h.own.alloc o, h.bel.alloc h.le o, by have := h.le; simp; omega⟩
theorem IBuf.drew {B : Nat} {w0 w : World} {v : Value} {l : List Int} (h : IBuf B w0 w v l) : IBuf B w0 w.drew v l :=
  ⟨h.own.drew, h.bel.drew, h.le⟩
theorem IBuf.fresh (w : World) : IBuf w.heap.size w (w.alloc (.cells #[] 3)) (.slice (some ⟨w.heap.size, 0, none⟩) 0 0) [] :=
  ⟨World.ownsRow_made w #[] 0 (Nat.le_refl _) (by decide) rfl, (Below.refl _ _).alloc (Nat.le_refl _) _, by simp⟩

/-- What is laid behind the heap's end, and nothing else, leaves the numbers where they are. -/
theorem IBuf.later {B : Nat} {w0 w w' : World} {v : Value} {l : List Int} (h : IBuf B w0 w v l) (hb : Below w.heap.size w w') : IBuf B w0 w' v l := by
  have hg : w.grownBy w' none := ⟨hb.os, hb.tape, hb.output, hb.size, fun k hk _ => hb.block k hk⟩
  refine ⟨h.own.kept hg ?_, h.bel.trans (hb.mono h.le), Nat.le_trans h.le hb.size⟩
  cases hv : v.ownBlock with
  | none => exact .inl rfl
  | some k => exact .inr (by simp)

theorem wpList_append_int {w0 w : World} {ops : Array Oper} {rest : List Oper} {o : Oper} {a : Act} {Q : Exit → Act → World → Prop} (hgd : o.guard = none) (s x : Operand)
    (ho : o.op = .call { callee := .builtin .append, args := #[s, x], argTypes := #[115, 115] })
    (B : Nat) (v : Value) (l : List Int) (hs : a.eval s = v) (hb : IBuf B w0 w v l)
    (ad : Addr) (t : Int) (hx : a.eval x = .slice (some ad) 1 1)
    (hnews : ∀ j u, [Value.int .i64 t][j]? = some u → w.cell? (ad.add j) = some u)
    (hlen : l.length + 1 ≤ 8796093022208)
    (h : ∀ v' w', IBuf B w0 w' v' (l ++ [t]) → wpList Try.prog ops Q rest (a.put o.dst v') w') : wpList Try.prog ops Q (o :: rest) a w := by
  obtain ⟨i0, hi, hz0, hz1, hz2⟩ := info_parts Try.info_int
  refine wpList_append_own _ hgd s x 115 ho B 3 i0 (.int .i64 0) 1 8 Try.underlying115 hi hz0 hz1 hz2 rfl (by decide) v l.length (intV l) hs hb.own ad 1 1 [.int .i64 t] hx (by simp) hnews ?_ (by unfold maxLen; omega) (by omega) hb.le ?_
  · intro u hu
    simp at hu
    subst hu
    rfl
  · intro v' w' hown hgrow _
    refine h v' w' ⟨?_, hb.bel.grown hgrow hb.le (fun k hk => (hb.own.lt k hk).1), Nat.le_trans hb.le hgrow.size⟩
    have e1 : (l ++ [t]).length = l.length + 1 := by simp
    have e2 : intV (l ++ [t]) = intV l ++ [.int .i64 t] := by simp [intV]
    rw [e1, e2]
    exact hown

theorem IBuf.form {B : Nat} {w0 w : World} {v : Value} {l : List Int} (h : IBuf B w0 w v l) : ∃ (a : Option Addr) (cap : Nat), v = .slice a l.length cap := by
  rcases h.own.2 with ⟨rfl, h0⟩ | ⟨g, cap, cur, rfl, _⟩
  · exact ⟨none, 0, by rw [h0]⟩
  · exact ⟨_, _, rfl⟩

/-- Numbers that can be read: each in its cell of a row; nothing where there is none. -/
def Ints (w : World) (v : Value) (l : List Int) : Prop :=
  (l = [] ∧ ∃ (a : Option Addr) (cap : Nat), v = .slice a 0 cap) ∨
  ∃ g cap : Nat, v = .slice (some ⟨g, 0, none⟩) l.length cap ∧ l.length ≤ cap ∧ g < w.heap.size ∧ ∀ j b, l[j]? = some b → w.cell? ⟨g, j, none⟩ = some (.int .i64 b)

theorem IBuf.ints {B : Nat} {w0 w : World} {v : Value} {l : List Int} (h : IBuf B w0 w v l) : Ints w v l := by
  rcases h.own.2 with ⟨rfl, h0⟩ | ⟨g, cap, cur, rfl, hg, hh, hnc, hcp, hcs, htake⟩
  · exact .inl ⟨List.length_eq_zero_iff.1 h0, _, _, rfl⟩
  · refine .inr ⟨g, cap, rfl, hnc, (h.own.lt g rfl).2, fun j b hj => ?_⟩
    have hlt : j < l.length := (List.getElem?_eq_some_iff.1 hj).1
    rw [h.own.cellAt j (by omega)]
    simp [intV, hj]

theorem Ints.later {w w' : World} {v : Value} {l : List Int} (h : Ints w v l) (hb : Below w.heap.size w w') : Ints w' v l := by
  rcases h with h | ⟨g, cap, hv, hc, hg, hcl⟩
  · exact .inl h
  · exact .inr ⟨g, cap, hv, hc, Nat.lt_of_lt_of_le hg hb.size, fun j b hj => (hb.cell (p := ⟨g, j, none⟩) hg).trans (hcl j b hj)⟩

/-- A store into the row. -/
theorem IBuf.stored {B : Nat} {w0 w : World} {g cap : Nat} {l : List Int} (h : IBuf B w0 w (.slice (some ⟨g, 0, none⟩) l.length cap) l) (j : Nat) (t : Int) :
    IBuf B w0 (w.setCell ⟨g, j, none⟩ (.int .i64 t)) (.slice (some ⟨g, 0, none⟩) l.length cap) (l.set j t) := by
  have hst := h.own.stored j (.int .i64 t)
  have e : intV (l.set j t) = (intV l).set j (.int .i64 t) := by simp [intV, List.map_set]
  refine ⟨?_, h.bel.setCell (h.own.lt g rfl).1 _, by have := h.le; simpa using this⟩
  have hl : (l.set j t).length = l.length := by simp
  rw [hl, e]
  exact hst.1

theorem IBuf.under {w0 w1 w : World} {v : Value} {l : List Int} (hb : Below w0.heap.size w0 w1) (h : IBuf w1.heap.size w1 w v l) : IBuf w0.heap.size w0 w v l := by
  refine ⟨⟨h.own.1, ?_⟩, hb.trans (h.bel.mono hb.size), Nat.le_trans hb.size h.le⟩
  rcases h.own.2 with h1 | ⟨g, cap, cur, h1, h2, h3⟩
  · exact .inl h1
  · exact .inr ⟨g, cap, cur, h1, Nat.le_trans hb.size h2, h3⟩

end Go.Proofs.Ytjfilicddnhniab

/- What records tell: the model's numbers in their order. -/
namespace Go.Proofs.Ytjfilicddnhniab
open Go.RowKit

theorem filt_yes {p : Int → Bool} {l : List Int} {i : Nat} {b : Int} (h : l[i]? = some b) (hp : p b = true) : (l.take (i + 1)).filter p = (l.take i).filter p ++ [b] := by
  rw [List.take_add_one, h, List.filter_append]
  simp [hp]
theorem filt_no {p : Int → Bool} {l : List Int} {i : Nat} {b : Int} (h : l[i]? = some b) (hp : p b = false) : (l.take (i + 1)).filter p = (l.take i).filter p := by
  rw [List.take_add_one, h, List.filter_append]
  simp [hp]
theorem filt_len (p : Int → Bool) (l : List Int) (i : Nat) : ((l.take i).filter p).length ≤ l.length :=
  Nat.le_trans (List.length_filter_le _ _) (List.length_take_le' _ _)
theorem one_intS (w : World) (t : Int) : ∀ j u, [Value.int .i64 t][j]? = some u → (w.alloc (.cells #[.int .i64 t] 3)).cell? ((⟨w.heap.size, 0, none⟩ : Addr).add j) = some u := by
  intro j u hj
  have : j = 0 := by have := (List.getElem?_eq_some_iff.1 hj).1; simp at this; exact this
  subst this
  simp at hj
  subst hj
  simp [Addr.add]

set_option maxRecDepth 100000 in
set_option maxHeartbeats 2000000 in
theorem specSorted_any (l : List Int) (v : Value) (x : Int) (w : World) (h : Ints w v l) (hl : l.length ≤ 1000000) :
    Calls Try.prog 85 #[v, .int .i64 x] w fun e w' => ∃ v', e = .returned v' ∧ IBuf w.heap.size w w' v' (insI l x) := by
  obtain ⟨ad, cap, rfl, hrow⟩ : ∃ (ad : Option Addr) (cap : Nat), v = .slice ad l.length cap ∧ ∀ X, Below w.heap.size w X → ∀ i b, l[i]? = some b → ∃ g, ad = some ⟨g, 0, none⟩ ∧ X.cell? ⟨g, i, none⟩ = some (.int .i64 b) := by
    rcases h with ⟨rfl, a, c, rfl⟩ | ⟨g, c, rfl, hc, hg, hcl⟩
    · exact ⟨a, c, rfl, fun X _ i x hi => by cases hi⟩
    · exact ⟨_, c, rfl, fun X hb i b hi => ⟨g, rfl, (hb.cell (p := ⟨g, i, none⟩) hg).trans (hcl i b hi)⟩⟩
  have HR := Lib.hid hrow
  clear h hrow
  have hst := IBuf.fresh w
  go_enter Try.func85, Try.ntmps85
  go_wp2
  go_loopw [5, 6] (fun ov iv wr => ∃ i : Nat, i ≤ l.length ∧ iv = .int .i64 (i : Int) ∧ IBuf w.heap.size w wr ov ((l.take i).filter (fun y => decide (y < x)))) (fun _ iv _ => l.length - (intOf iv).toNat)
  case atStart => exact ⟨0, by omega, rfl, hst⟩
  case round =>
    clear hst
    obtain ⟨i, hi, rfl, hb⟩ := hrel
    have hfl := filt_len (fun y => decide (y < x)) l i
    obtain ⟨oa, oc, rfl⟩ := hb.form
    by_cases hlt : i < l.length
    · have hgx : l[i]? = some l[i] := List.getElem?_eq_getElem hlt
      obtain ⟨g, rfl, c0⟩ := HR.out _ hb.bel i _ hgx
      generalize l[i] = b at *
      have hi0 : (0 : Int) ≤ (i : Int) := by omega
      have hi1 : (i : Int) < (l.length : Int) := by omega
      by_cases hbx : b < x
      · have HE := Lib.hid (filt_yes (p := fun y => decide (y < x)) hgx (decide_eq_true hbx))
        clear hgx
        generalize (l.take i).filter (fun y => decide (y < x)) = L at *
        have HB := Lib.hid hb
        clear hb
        go_wp2_with (at_builtin; refine wpList_append_int rfl _ _ rfl _ _ L rfl (HB.out.alloc _) ⟨wr.heap.size, 0, none⟩ b rfl ?c1 ?c2 ?_)
        case c1 => exact one_intS _ _
        case c2 => omega
        intro v' w4 hb4
        have HB4 := Lib.hid hb4
        clear hb4 c0
        go_wp2
        exact ⟨⟨i + 1, by omega, by simp, by rw [HE.out]; exact HB4.out⟩, by first | omega | (simp [intOf]; omega)⟩
      · have HE := Lib.hid (filt_no (p := fun y => decide (y < x)) hgx (decide_eq_false hbx))
        clear hgx
        generalize (l.take i).filter (fun y => decide (y < x)) = L at *
        have HB := Lib.hid hb
        clear hb
        go_wp2
        exact ⟨⟨i + 1, by omega, by simp, by rw [HE.out]; exact HB.out⟩, by first | omega | (simp [intOf]; omega)⟩
    · have hie : i = l.length := by omega
      subst hie
      rw [List.take_length] at hb hfl ⊢
      have HF : Hid (l.filter (fun y => decide (y < x)) ++ (x :: l.filter (fun y => decide (x < y))) = insI l x) := rfl
      generalize l.filter (fun y => decide (y < x)) = L at *
      have HB := Lib.hid hb
      clear hb
      go_wp2_with (at_builtin; refine wpList_append_int rfl _ _ rfl _ _ L rfl (HB.out.alloc _) ⟨wr.heap.size, 0, none⟩ x rfl ?c1 ?c2 ?_)
      case c1 => exact one_intS _ _
      case c2 => omega
      intro v' w4 hb4
      have HB4 := Lib.hid hb4
      clear HB hb4
      go_wp2
      go_loopw [5, 7] (fun ov iv wr => ∃ i : Nat, i ≤ l.length ∧ iv = .int .i64 (i : Int) ∧ IBuf w.heap.size w wr ov (L ++ [x] ++ (l.take i).filter (fun y => decide (x < y)))) (fun _ iv _ => l.length - (intOf iv).toNat)
      case atStart => exact ⟨0, by omega, rfl, by simpa using HB4.out⟩
      case round =>
        clear HB4
        obtain ⟨i, hi, rfl, hb⟩ := hrel
        have hfl2 := filt_len (fun y => decide (x < y)) l i
        by_cases hlt : i < l.length
        · have hgx : l[i]? = some l[i] := List.getElem?_eq_getElem hlt
          obtain ⟨g, rfl, c0⟩ := HR.out _ hb.bel i _ hgx
          generalize l[i] = b at *
          have hi0 : (0 : Int) ≤ (i : Int) := by omega
          have hi1 : (i : Int) < (l.length : Int) := by omega
          by_cases hbx : x < b
          · have HE := Lib.hid (filt_yes (p := fun y => decide (x < y)) hgx (decide_eq_true hbx))
            clear hgx
            generalize (l.take i).filter (fun y => decide (x < y)) = M at *
            have hml : (L ++ [x] ++ M).length ≤ 2000001 := by simp; omega
            have HB := Lib.hid hb
            clear hb
            generalize hK : L ++ [x] ++ M = K at *
            go_wp2_with (at_builtin; refine wpList_append_int rfl _ _ rfl _ _ K rfl (HB.out.alloc _) ⟨wr.heap.size, 0, none⟩ b rfl ?c1 ?c2 ?_)
            case c1 => exact one_intS _ _
            case c2 => omega
            intro v' w5 hb5
            have HB5 := Lib.hid hb5
            clear hb5 c0
            go_wp2
            exact ⟨⟨i + 1, by omega, by simp, by rw [HE.out, ← List.append_assoc, hK]; exact HB5.out⟩, by first | omega | (simp [intOf]; omega)⟩
          · have HE := Lib.hid (filt_no (p := fun y => decide (x < y)) hgx (decide_eq_false hbx))
            clear hgx
            generalize (l.take i).filter (fun y => decide (x < y)) = M at *
            have HB := Lib.hid hb
            clear hb
            go_wp2
            exact ⟨⟨i + 1, by omega, by simp, by rw [HE.out]; exact HB.out⟩, by first | omega | (simp [intOf]; omega)⟩
        · have hie : i = l.length := by omega
          subst hie
          rw [List.take_length] at hb
          have HB := Lib.hid hb
          clear hb
          go_wp2
          go_ret
          have e : L ++ [x] ++ l.filter (fun y => decide (x < y)) = insI l x := by rw [← HF.out]; simp
          have hb' := HB.out
          rw [e] at hb'
          exact ⟨_, rfl, hb'⟩

end Go.Proofs.Ytjfilicddnhniab
