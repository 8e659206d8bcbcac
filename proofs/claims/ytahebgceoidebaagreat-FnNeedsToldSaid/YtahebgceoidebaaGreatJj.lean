/- Texts of our own, joined. -/
import Derived.Test.YtahebgceoidebaaGreatJi
import Derived.Test.YtahebgceoidebaaGreatJg
import Derived.Test.YtahebgceoidebaaGreatJc
import Derived.Test.YtahebgceoidebaaGreatJb
import Derived.Maps.AppendAt
import Derived.Lib.Hide
import Derived.Test.YtahebgceoidebaaGreatJd
/- NeededAll and Needed of the model. -/
namespace Go.Proofs.YtahebgceoidebaaGreat
open Go.RowKit

noncomputable def needL (l : List Itm) : List Bool := needP l (decide (itemsOk l)) l.length
theorem needL_len (l : List Itm) : (needL l).length = l.length := needP_len l _ _ (Nat.le_refl _)

set_option maxRecDepth 100000 in
set_option maxHeartbeats 4000000 in
theorem specNeededAll_any (l : List Itm) (v : Value) (w : World) (h : Rows' itE w v l) (hl : l.length ≤ 1048576) (hz : ∀ x ∈ l, x.2.user.size ≤ 1048576 ∧ x.2.name.size ≤ 1048576 ∧ x.2.text.size ≤ 1048576) :
    Calls Tryz.prog 22 #[v] w fun e w' => ∃ v', e = .returned v' ∧ RBuf boE w.heap.size w w' v' (needL l) := by
  have HIO := Lib.hid (fun x (hx : Below w.heap.size w x) => specItemsOk_any l v x (h.later hx) (by omega) (fun y hy => by have := hz y hy; omega))
  have HND : Hid (itemsOk l → ∀ (k : Nat) (y : Itm), l[k]? = some y → ∀ x, Below w.heap.size w x → Calls Tryz.prog 48 #[v, .int .i64 (k : Int)] x fun e w' => e = .returned (.bool (needB l k y)) ∧ Below x.heap.size x w') := fun hok k y hk x hx => specNeed_any l v k y x (h.later hx) hl hk ((hok.1 y (List.mem_of_getElem? hk)).2.1)
  obtain ⟨ad, cap, rfl, _⟩ := h.items
  clear h hz
  have HE : Hid (needL l = needP l (decide (itemsOk l)) l.length) := by show _ = _; rfl
  have HOK : Hid (decide (itemsOk l) = true → itemsOk l) := fun h => of_decide_eq_true h
  generalize needL l = R at HE ⊢
  generalize decide (itemsOk l) = ok at HIO HE HOK
  obtain ⟨n, hn⟩ : ∃ n, l.length = n := ⟨_, rfl⟩
  rw [hn] at hl HE HIO HND
  rw [hn]
  have HN := Lib.hid hn
  clear hn
  go_enter Tryz.func22, Tryz.ntmps22
  go_wp2_with fail
  refine (HIO.out _ (Below.refl _ _)).mono ?_
  rintro e w1 ⟨rfl, k1⟩
  clear HIO
  have I0 := (RBuf.fresh boE w1).down (k1.trans ((belNew w1 (.cells #[] boE.ty)).mono k1.size)) k1.size
  go_wp2
  go_loopw [4, 5] (fun v iv wr => ∃ i : Nat, i ≤ n ∧ iv = .int .i64 (i : Int) ∧ RBuf boE w.heap.size w wr v (needP l ok i)) (fun _ iv _ => n - (intOf iv).toNat)
  case atStart => exact ⟨0, by omega, rfl, I0⟩
  case round =>
    clear I0 k1
    obtain ⟨i, hi, rfl, I⟩ := hrel
    by_cases hlt : i < n
    · obtain ⟨x, hgx⟩ : ∃ x, l[i]? = some x := ⟨_, List.getElem?_eq_getElem (by rw [HN.out]; exact hlt)⟩
      have HST := Lib.hid (needP_step (ok := ok) hgx)
      have hlu := needP_len l ok i (by rw [HN.out]; exact hi)
      have hl2 : (needP l ok i).length ≤ 1048576 := by omega
      clear hlu
      generalize needP l ok i = us at HST I hl2
      have hi0 : (0 : Int) ≤ (i : Int) := by omega
      have hi1 : (i : Int) < (n : Int) := by omega
      cases ok with
      | false =>
        have HR6 := Lib.hid (I.alloc (.cells #[.bool false] 4))
        have HL6 := Lib.hid (RBuf.lit1 boE wr false)
        clear hgx I HND
        go_wp2_with (at_builtin; refine wpList_append_rows rfl _ _ boE rfl w.heap.size _ _ rfl HR6.out.here wr.heap.size _ [false] rfl HL6.out (by show _ * 2 ≤ _; simp only [List.length_cons, List.length_nil]; omega) ?_; intro v6 w6 r6 g6 at6)
        exact ⟨⟨i + 1, by omega, by simp, by rw [HST.out]; exact ⟨r6.own, HR6.out.bel.grown g6 HR6.out.le (fun k hk => (HR6.out.own.lt k hk).1), r6.le⟩⟩, by first | omega | (simp [intOf]; omega)⟩
      | true =>
        have HNK := Lib.hid (HND.out (HOK.out rfl) i x hgx _ I.bel)
        generalize needB l i x = D at HST HNK
        clear hgx
        go_wp2_with fail
        refine HNK.out.mono ?_
        rintro e w5 ⟨rfl, k5⟩
        have HR6 := Lib.hid ((I.later k5).alloc (.cells #[.bool D] 4))
        have HL6 := Lib.hid (RBuf.lit1 boE w5 D)
        clear I k5 HNK
        go_wp2_with (at_builtin; refine wpList_append_rows rfl _ _ boE rfl w.heap.size _ _ rfl HR6.out.here w5.heap.size _ [D] rfl HL6.out (by show _ * 2 ≤ _; simp only [List.length_cons, List.length_nil]; omega) ?_; intro v6 w6 r6 g6 at6)
        exact ⟨⟨i + 1, by omega, by simp, by rw [HST.out, Bool.true_and]; exact ⟨r6.own, HR6.out.bel.grown g6 HR6.out.le (fun k hk => (HR6.out.own.lt k hk).1), r6.le⟩⟩, by first | omega | (simp [intOf]; omega)⟩
    · go_wp2
      go_ret
      refine ⟨_, rfl, ?_⟩
      have hil : i = n := by omega
      rw [HE.out, ← hil]
      exact I

theorem soB_need {l : List Itm} {k : Nat} {x : Itm} (h : l[k]? = some x) : soB (needL l) (k : Int) = (decide (itemsOk l) && needB l k x) := by
  rw [soB_nat]
  have hk := (List.getElem?_eq_some_iff.1 h).1
  have : ∀ (n : Nat), k < n → n ≤ l.length → (needP l (decide (itemsOk l)) n)[k]? = some (decide (itemsOk l) && needB l k x) := by
    intro n
    induction n with
    | zero => intro h1; omega
    | succ m ih =>
      intro h1 h2
      have hm : l[m]? = some l[m] := List.getElem?_eq_getElem (by omega)
      rw [needP_step hm]
      have hl := needP_len l (decide (itemsOk l)) m (by omega)
      by_cases c : k < m
      · rw [List.getElem?_append_left (by omega)]
        exact ih c (by omega)
      · have e : k = m := by omega
        subst e
        rw [List.getElem?_append_right (by omega), hl, Nat.sub_self]
        rw [h] at hm
        cases hm
        rfl
  unfold needL
  rw [this l.length hk (Nat.le_refl _)]
  cases (decide (itemsOk l) && needB l k x) <;> rfl
theorem soB_out {d : List Bool} {k : Int} (h : ¬ (0 ≤ k ∧ k ≤ (d.length : Int) - 1)) : soB d k = false := by
  unfold soB
  refine decide_eq_false (fun c => h ⟨c.1, ?_⟩)
  have := (List.getElem?_eq_some_iff.1 c.2).1
  omega

set_option maxRecDepth 100000 in
set_option maxHeartbeats 4000000 in
theorem specNeeded_any (l : List Itm) (v : Value) (k : Int) (w : World) (h : Rows' itE w v l) (hl : l.length ≤ 1048576) (hz : ∀ x ∈ l, x.2.user.size ≤ 1048576 ∧ x.2.name.size ≤ 1048576 ∧ x.2.text.size ≤ 1048576) :
    Calls Tryz.prog 23 #[v, .int .i64 k] w fun e w' => e = .returned (.bool (soB (needL l) k)) ∧ Below w.heap.size w w' := by
  have HIO := Lib.hid (specItemsOk_any l v w h (by omega) (fun y hy => by have := hz y hy; omega))
  have HND : Hid (itemsOk l → ∀ (k : Nat) (y : Itm), l[k]? = some y → ∀ x, Below w.heap.size w x → Calls Tryz.prog 48 #[v, .int .i64 (k : Int)] x fun e w' => e = .returned (.bool (needB l k y)) ∧ Below x.heap.size x w') := fun hok k y hk x hx => specNeed_any l v k y x (h.later hx) hl hk ((hok.1 y (List.mem_of_getElem? hk)).2.1)
  have HLN := Lib.hid (needL_len l)
  obtain ⟨ad, cap, rfl, _⟩ := h.items
  clear h hz
  by_cases hin : 0 ≤ k ∧ k ≤ (l.length : Int) - 1
  · obtain ⟨q, rfl⟩ : ∃ q : Nat, k = (q : Int) := ⟨k.toNat, by omega⟩
    obtain ⟨x, hx⟩ : ∃ x, l[q]? = some x := ⟨_, List.getElem?_eq_getElem (by omega)⟩
    rw [soB_need hx]
    by_cases hok : itemsOk l
    · have HNK := Lib.hid (fun X hX => HND.out hok q x hx X hX)
      rw [decide_eq_true hok] at HIO ⊢
      rw [Bool.true_and]
      generalize needB l q x = D at HNK ⊢
      clear hx hok HND HLN
      have hwr : IntKind.i64.wrap ((l.length : Int) - 1) = (l.length : Int) - 1 := IntWalk.i64_in _ ⟨by omega, by omega⟩
      go_enter Tryz.func23, Tryz.ntmps23
      go_wp2_with fail
      refine HIO.out.mono ?_
      rintro e w1 ⟨rfl, k1⟩
      go_wp2_with fail
      refine (l01In_yes _ _ _ _ (by omega) (by omega)).mono ?_
      rintro e w2 ⟨rfl, rfl⟩
      go_wp2_with fail
      refine (HNK.out _ k1).mono ?_
      rintro e w3 ⟨rfl, k3⟩
      have bE := k1.trans (k3.mono k1.size)
      go_wp2
      go_ret
      exact ⟨rfl, bE⟩
    · rw [decide_eq_false hok] at HIO ⊢
      rw [Bool.false_and]
      clear hx hok HND HLN
      go_enter Tryz.func23, Tryz.ntmps23
      go_wp2_with fail
      refine HIO.out.mono ?_
      rintro e w1 ⟨rfl, k1⟩
      go_wp2
      go_ret
      exact ⟨rfl, k1⟩
  · rw [soB_out (by rw [HLN.out]; exact hin)]
    generalize decide (itemsOk l) = ok at HIO
    clear HND HLN
    cases ok with
    | true =>
      have hwr : IntKind.i64.wrap ((l.length : Int) - 1) = (l.length : Int) - 1 := IntWalk.i64_in _ ⟨by omega, by omega⟩
      go_enter Tryz.func23, Tryz.ntmps23
      go_wp2_with fail
      refine HIO.out.mono ?_
      rintro e w1 ⟨rfl, k1⟩
      go_wp2_with fail
      refine (l01In_no _ _ _ _ (by omega)).mono ?_
      rintro e w2 ⟨rfl, rfl⟩
      go_wp2
      go_ret
      exact ⟨rfl, k1⟩
    | false =>
      go_enter Tryz.func23, Tryz.ntmps23
      go_wp2_with fail
      refine HIO.out.mono ?_
      rintro e w1 ⟨rfl, k1⟩
      go_wp2
      go_ret
      exact ⟨rfl, k1⟩

end Go.Proofs.YtahebgceoidebaaGreat

/- What is needed is what tells its subject, and is wanted. -/
namespace Go.Proofs.YtahebgceoidebaaGreat

def noBig (l : List Itm) (x : Itm) : Bool := !(l.any fun y => decide (sjOf y = sjOf x) && bigB y x)
def othS (rK rV : Int) (y : Itm) : Bool := decide (y.2.valid = rV ∧ y.2.kind ≠ rK)
def wantO (l : List Itm) (f : Int × Int × Int → Option Nat) (x : Itm) : Bool :=
  if x.2.kind = 1 then boxO f x.2.valid else if x.2.kind = 2 then l.any (othS x.2.kind x.2.valid) else if x.2.kind = 5 then addO f x.2.valid x.2.uid else mailO f x.2.valid x.2.uid

theorem noBig_iff {l : List Itm} {x : Itm} : noBig l x = true ↔ ∀ y ∈ l, sjOf y = sjOf x → bigB y x = false := by
  unfold noBig
  rw [Bool.not_eq_true', List.any_eq_false]
  constructor
  · intro h y hy e
    have := h y hy
    simp only [Bool.and_eq_true, decide_eq_true_eq, not_and, Bool.not_eq_true] at this
    exact this e
  · intro h y hy
    simp only [Bool.and_eq_true, decide_eq_true_eq, not_and, Bool.not_eq_true]
    exact h y hy
theorem bigB_eq {a b : Itm} (h1 : bigB a b = false) (h2 : bigB b a = false) : a.1 = b.1 := by
  unfold bigB aheadB at *
  simp only [decide_eq_false_iff_not] at *
  omega

theorem tel_iff {l : List Itm} (hu : Uniq l) {i : Nat} {x : Itm} (hx : l[i]? = some x) : decide (telP l l.length (sjOf x) = some i) = (firstB l i x && noBig l x) := by
  have hi : i < l.length := (List.getElem?_eq_some_iff.1 hx).1
  have hxl : x ∈ l := List.mem_of_getElem? hx
  rcases telI l l.length (Nat.le_refl _) (sjOf x) with ⟨h1, h2⟩ | ⟨j, z, h1, h2, h3, h4, h5, h6⟩
  · exact absurd rfl (h2 i x hi hx)
  · have hzl : z ∈ l := List.mem_of_getElem? h3
    have hbig : ∀ y ∈ l, sjOf y = sjOf x → bigB y z = false := fun y hy e => by
      obtain ⟨q, hq⟩ := List.mem_iff_getElem?.1 hy
      exact h5 q y (List.getElem?_eq_some_iff.1 hq).1 hq e
    by_cases hji : j = i
    · subst hji
      have hzx : z = x := Option.some.inj (h3.symm.trans hx)
      subst hzx
      rw [decide_eq_true h1]
      have hf : firstB l j z = true := by
        unfold firstB
        have : (l.take j).any (fun y => decide (y.1 = z.1)) = false := by
          rw [List.any_eq_false]
          intro y hy
          simp only [decide_eq_true_eq]
          intro e
          obtain ⟨q, hq⟩ := List.mem_iff_getElem?.1 hy
          have hql : q < j := by have := (List.getElem?_eq_some_iff.1 hq).1; rw [List.length_take] at this; omega
          rw [List.getElem?_take_of_lt hql] at hq
          have hyz : y = z := hu y (List.mem_of_getElem? hq) z hzl e
          have := h6 q y hql hq (by rw [hyz])
          rw [hyz, bigB_self] at this
          cases this
        rw [this]; rfl
      rw [hf, noBig_iff.2 hbig]; rfl
    · rw [h1, decide_eq_false (fun e => hji (Option.some.inj e))]
      symm
      rw [Bool.and_eq_false_iff]
      by_cases hn : noBig l x = true
      · left
        have hzx : z = x := hu z hzl x hxl (bigB_eq (noBig_iff.1 hn z hzl h4) (hbig x hxl rfl))
        have hlt : j < i := by
          rcases Nat.lt_or_gt_of_ne hji with h | h
          · exact h
          · have := h6 i x h hx rfl
            rw [hzx, bigB_self] at this
            cases this
        unfold firstB
        rw [List.any_eq_true.2 ⟨z, List.mem_of_getElem? (i := j) (by rw [List.getElem?_take_of_lt hlt]; exact h3), by rw [hzx]; simp⟩]
        rfl
      · right
        exact Bool.eq_false_iff.2 hn

theorem tel_has {l : List Itm} (k v u : Int) : (telP l l.length (k, v, u)).isSome = hasO l k v u := by
  unfold hasO
  rcases telI l l.length (Nat.le_refl _) (k, v, u) with ⟨h1, h2⟩ | ⟨j, z, h1, h2, h3, h4, _⟩
  · rw [h1]
    cases hb : bestR k v u l with
    | none => rfl
    | some y =>
      obtain ⟨hy, e, _⟩ := bestR_some hb
      obtain ⟨q, hq⟩ := List.mem_iff_getElem?.1 hy
      exact absurd (by unfold sjOf; rw [e.1, e.2.1, e.2.2]) (h2 q y (List.getElem?_eq_some_iff.1 hq).1 hq)
  · rw [h1]
    have e : z.2.kind = k ∧ z.2.valid = v ∧ z.2.uid = u := by unfold sjOf at h4; simpa using h4
    obtain ⟨y, hy⟩ := bestR_there (List.mem_of_getElem? h3) e
    rw [hy]
    rfl

theorem ok_next {r : Rc} (h : r.ok) (hk : r.kind ≠ 1) : r.next = 0 := by
  have := h.2.2.1
  rw [if_neg hk] at this
  exact this.2.2
theorem tel_uid {r : Rc} (h : r.ok) (hk : r.kind < 3) : r.uid = 0 := by
  have := h.2.2.2.1
  rw [if_neg (by omega)] at this
  exact this

theorem seq_noBig {l : List Itm} (hok : ∀ y ∈ l, y.2.ok) {x : Itm} (hx : x ∈ l) (hk : x.2.kind ≠ 1) : seqB (bestR x.2.kind x.2.valid x.2.uid l) x = noBig l x := by
  obtain ⟨b, hb⟩ := bestR_there hx ⟨rfl, rfl, rfl⟩
  obtain ⟨hbl, hbe, hbm⟩ := bestR_some hb
  rw [hb]
  have hnx : ∀ y ∈ l, sjOf y = sjOf x → y.2.next = 0 := fun y hy e => ok_next (hok y hy) (by
    have : y.2.kind = x.2.kind := congrArg Prod.fst e
    rw [this]; exact hk)
  have hx0 := hnx x hx rfl
  have hxb : x.1 ≤ b.1 := hbm x hx rfl rfl rfl
  by_cases hn : noBig l x = true
  · rw [hn]
    have hs : sjOf b = sjOf x := by unfold sjOf; rw [hbe.1, hbe.2.1, hbe.2.2]
    have h1 := noBig_iff.1 hn b hbl hs
    have hb0 := hnx b hbl hs
    unfold bigB aheadB at h1
    simp only [decide_eq_false_iff_not] at h1
    show decide (b.1 = x.1) = true
    exact decide_eq_true (by omega)
  · rw [Bool.eq_false_iff.2 hn]
    show decide (b.1 = x.1) = false
    refine decide_eq_false (fun e => hn (noBig_iff.2 fun y hy hs => ?_))
    have h1 := hbm y hy (congrArg Prod.fst hs) (congrArg (fun s => s.2.1) hs) (congrArg (fun s => s.2.2) hs)
    have hy0 := hnx y hy hs
    unfold bigB aheadB
    simp only [decide_eq_false_iff_not]
    omega

theorem need_iff {l : List Itm} (hok : ∀ y ∈ l, y.2.ok) {x : Itm} (hx : x ∈ l) : needO l x = (noBig l x && wantO l (telP l l.length) x) := by
  have hb : ∀ v, boxO (telP l l.length) v = thereO l v := fun v => by unfold boxO thereO; rw [tel_has, tel_has]
  have ha : ∀ v u, addO (telP l l.length) v u = (thereO l v && hasO l 3 v u) := fun v u => by unfold addO; rw [hb, tel_has]
  have hm : ∀ v u, mailO (telP l l.length) v u = ((thereO l v && hasO l 3 v u) && !hasO l 5 v u) := fun v u => by unfold mailO; rw [ha, tel_has]
  have hxo := hok x hx
  unfold needO wantO
  by_cases h1 : x.2.kind = 1
  · rw [if_pos h1, if_pos h1, hb]
    congr 1
    unfold anyBig noBig
    congr 1
    have : ∀ y ∈ l, (decide (y.2.kind = 1 ∧ y.2.valid = x.2.valid) && bigB y x) = (decide (sjOf y = sjOf x) && bigB y x) := fun y hy => by
      congr 1
      apply decide_eq_decide.2
      unfold sjOf
      constructor
      · rintro ⟨e1, e2⟩
        rw [e1, e2, h1, tel_uid (hok y hy) (by omega), tel_uid hxo (by omega)]
      · intro e
        simp only [Prod.mk.injEq] at e
        exact ⟨by omega, e.2.1⟩
    rw [Bool.eq_iff_iff, List.any_eq_true, List.any_eq_true]
    constructor
    · rintro ⟨y, hy, e⟩; exact ⟨y, hy, by rw [← this y hy]; exact e⟩
    · rintro ⟨y, hy, e⟩; exact ⟨y, hy, by rw [this y hy]; exact e⟩
  · rw [if_neg h1, if_neg h1]
    by_cases h2 : x.2.kind = 2
    · rw [if_pos h2, if_pos h2]
      have hsb := seq_noBig hok hx h1
      rw [h2, tel_uid hxo (by omega)] at hsb
      rw [hsb, Bool.and_comm]
      congr 1
      unfold anyOther
      rw [h2, Bool.eq_iff_iff, List.any_eq_true, List.any_eq_true]
      constructor
      · rintro ⟨y, hy, e⟩; exact ⟨y, hy, by unfold othS; simp only [decide_eq_true_eq] at e ⊢; exact ⟨e.2, e.1⟩⟩
      · rintro ⟨y, hy, e⟩; exact ⟨y, hy, by unfold othS at e; simp only [decide_eq_true_eq] at e ⊢; exact ⟨e.2, e.1⟩⟩
    · rw [if_neg h2, if_neg h2]
      have hsb := seq_noBig hok hx h1
      by_cases h5 : x.2.kind = 5
      · rw [if_pos h5, if_pos h5, ha]
        rw [h5] at hsb
        rw [hsb, Bool.and_comm]
      · rw [if_neg h5, if_neg h5, hm, hsb, Bool.and_comm]

theorem needB_iff {l : List Itm} (hok : itemsOk l) {i : Nat} {x : Itm} (hx : l[i]? = some x) : needB l i x = (decide (telP l l.length (sjOf x) = some i) && wantO l (telP l l.length) x) := by
  rw [tel_iff hok.2.1 hx]
  unfold needB
  rw [need_iff (fun y hy => (hok.1 y hy).2) (List.mem_of_getElem? hx), Bool.and_assoc]

end Go.Proofs.YtahebgceoidebaaGreat

/- How mails lie in memory. -/
namespace Go.Proofs.YtahebgceoidebaaGreat
open Go.RowKit

def mlE : Enc Ml where
  ty := 69
  sty := 64
  sz := 3
  bytes := 32
  zero := .agg #[.int .i64 0, .int .i64 0, .string ⟨#[]⟩]
  f := fun x => [.int .i64 x.uid, .int .i64 x.flags, .string x.text]
  len := fun _ => rfl
  pos := by decide
  one := fun _ u hu => by simp at hu; rcases hu with rfl | rfl | rfl <;> rfl
  und := Tryz.underlying64
  info := by kernel_rfl
  zc := rfl
  z0 := ⟨0, 0, ⟨#[]⟩⟩
  zf := rfl

end Go.Proofs.YtahebgceoidebaaGreat

/- How boxes lie in memory: a row of boxes, each with a row of mails of its own. -/
namespace Go.Proofs.YtahebgceoidebaaGreat
open Go.RowKit

/-- A box as it lies in its row: its mails are a slice. -/
structure BxH where
  valid : Int
  user : ByteArray
  name : ByteArray
  next : Int
  a : Option Addr
  n : Nat
  c : Nat
def BxH.mv (h : BxH) : Value := .slice h.a h.n h.c

def hdE : Enc BxH where
  ty := 67
  sty := 31
  sz := 5
  bytes := 72
  zero := .agg #[.int .i64 0, .string ⟨#[]⟩, .string ⟨#[]⟩, .int .i64 0, .slice none 0 0]
  f := fun x => [.int .i64 x.valid, .string x.user, .string x.name, .int .i64 x.next, .slice x.a x.n x.c]
  len := fun _ => rfl
  pos := by decide
  one := fun _ u hu => by simp at hu; rcases hu with rfl | rfl | rfl | rfl | rfl <;> rfl
  und := Tryz.underlying31
  info := by kernel_rfl
  zc := rfl
  z0 := ⟨0, ⟨#[]⟩, ⟨#[]⟩, 0, none, 0, 0⟩
  zf := rfl

/-- Boxes in memory of their own (blocks from B on): the row, and the mails of each, all apart. -/
structure StO (B : Nat) (w : World) (v : Value) (bs : List Bx) (hs : List BxH) : Prop where
  row : RBuf hdE B w w v hs
  len : hs.length = bs.length
  at' : ∀ (j : Nat) (h : BxH) (b : Bx), hs[j]? = some h → bs[j]? = some b → (h.valid = b.valid ∧ h.user = b.user ∧ h.name = b.name ∧ h.next = b.next) ∧ RBuf mlE B w w h.mv b.mails
  far : ∀ (j : Nat) (h : BxH), hs[j]? = some h → ∀ k, h.mv.ownBlock = some k → v.ownBlock ≠ some k
  apart : ∀ (i j : Nat) (h h' : BxH), hs[i]? = some h → hs[j]? = some h' → i ≠ j → ∀ k, h.mv.ownBlock = some k → h'.mv.ownBlock ≠ some k

theorem RBuf.here' {α : Type} {E : Enc α} {B : Nat} {w0 w w' : World} {v : Value} {l : List α} (h : RBuf E B w0 w v l) (hb : Below w.heap.size w w') : RBuf E B w' w' v l := (h.later hb).here
theorem StO.later {B : Nat} {w w' : World} {v : Value} {bs : List Bx} {hs : List BxH} (h : StO B w v bs hs) (hb : Below w.heap.size w w') : StO B w' v bs hs :=
  ⟨h.row.here' hb, h.len, fun j x b h1 h2 => ⟨(h.at' j x b h1 h2).1, (h.at' j x b h1 h2).2.here' hb⟩, h.far, h.apart⟩
theorem StO.nil (w : World) : StO w.heap.size w (.slice none 0 0) [] [] :=
  ⟨RBuf.nil hdE w, rfl, fun j h b h1 => by simp at h1, fun j h h1 => by simp at h1, fun i j h h' h1 => by simp at h1⟩
/-- The mails of a box lie below the heap's end. -/
theorem StO.lt {B : Nat} {w : World} {v : Value} {bs : List Bx} {hs : List BxH} (h : StO B w v bs hs) {j : Nat} {x : BxH} (hj : hs[j]? = some x) {k : Nat} (hk : x.mv.ownBlock = some k) : k < w.heap.size := by
  have hl : j < hs.length := (List.getElem?_eq_some_iff.1 hj).1
  have hb : bs[j]? = some (bs[j]'(by rw [← h.len]; exact hl)) := List.getElem?_eq_getElem _
  exact ((h.at' j x _ hj hb).2.own.lt k hk).2

/-- One box more: it was appended, its mails lying in memory of their own. -/
theorem StO.push {B : Nat} {w w' : World} {v v' : Value} {bs : List Bx} {hs : List BxH} (h : StO B w v bs hs) (b : Bx) (x : BxH)
    (hx : x.valid = b.valid ∧ x.user = b.user ∧ x.name = b.name ∧ x.next = b.next) (hm : RBuf mlE B w w x.mv b.mails)
    (hv : ∀ k, x.mv.ownBlock = some k → v.ownBlock ≠ some k) (ho : ∀ (j : Nat) (y : BxH), hs[j]? = some y → ∀ k, y.mv.ownBlock = some k → x.mv.ownBlock ≠ some k)
    (hr : RBuf hdE B w' w' v' (hs ++ [x])) (hg : w.grownBy w' v.ownBlock) (ha : v'.ownBlock = v.ownBlock ∨ v'.ownBlock = some w.heap.size) : StO B w' v' (bs ++ [b]) (hs ++ [x]) := by
  have kept : ∀ (m : Value) (l : List Ml), RBuf mlE B w w m l → (∀ k, m.ownBlock = some k → v.ownBlock ≠ some k) → RBuf mlE B w' w' m l := fun m l hm hf => by
    refine hm.shift hg ?_
    cases hmb : m.ownBlock with
    | none => exact .inl rfl
    | some k => exact .inr (fun e => hf k hmb e.symm)
  have old : ∀ {j : Nat} {y : BxH}, (hs ++ [x])[j]? = some y → (hs[j]? = some y ∧ j < hs.length) ∨ (j = hs.length ∧ y = x) := fun {j y} hj => by
    by_cases c : j < hs.length
    · rw [List.getElem?_append_left c] at hj
      exact .inl ⟨hj, c⟩
    · rw [List.getElem?_append_right (by omega)] at hj
      have hj0 : j - hs.length = 0 := by
        have := (List.getElem?_eq_some_iff.1 hj).1
        simp at this; omega
      rw [hj0] at hj
      simp at hj
      exact .inr ⟨by omega, hj.symm⟩
  have hvlt : ∀ {k : Nat}, x.mv.ownBlock = some k → k < w.heap.size := fun {k} hk => (hm.own.lt k hk).2
  refine ⟨hr, by simp [h.len], fun j y c h1 h2 => ?_, fun j y h1 k hk => ?_, fun i j y z h1 h2 hij k hk => ?_⟩
  · rcases old h1 with ⟨h3, hl⟩ | ⟨rfl, rfl⟩
    · rw [List.getElem?_append_left (by rw [← h.len]; exact hl)] at h2
      exact ⟨(h.at' j y c h3 h2).1, kept _ _ (h.at' j y c h3 h2).2 (h.far j y h3)⟩
    · rw [List.getElem?_append_right (by rw [h.len]; omega), h.len] at h2
      simp at h2
      subst h2
      exact ⟨hx, kept _ _ hm hv⟩
  · rcases old h1 with ⟨h3, _⟩ | ⟨_, rfl⟩
    · rcases ha with e | e
      · rw [e]; exact h.far j y h3 k hk
      · rw [e]; intro e2; have := h.lt h3 hk; have := Option.some.inj e2; omega
    · rcases ha with e | e
      · rw [e]; exact hv k hk
      · rw [e]; intro e2; have := hvlt hk; have := Option.some.inj e2; omega
  · rcases old h1 with ⟨h3, hl3⟩ | ⟨ei, rfl⟩
    · rcases old h2 with ⟨h4, _⟩ | ⟨_, rfl⟩
      · exact h.apart i j y z h3 h4 hij k hk
      · exact ho i y h3 k hk
    · rcases old h2 with ⟨h4, _⟩ | ⟨ej, _⟩
      · intro e; exact ho j z h4 k e hk
      · omega

end Go.Proofs.YtahebgceoidebaaGreat

/- Boxes in memory of their own: what leaves them as they are. -/
namespace Go.Proofs.YtahebgceoidebaaGreat
open Go.RowKit

/-- What leaves the boxes' and the mails' blocks alone leaves them as they are. -/
theorem StO.shift {B : Nat} {w w' : World} {v : Value} {bs : List Bx} {hs : List BxH} {r : Option Nat} (h : StO B w v bs hs) (hg : w.grownBy w' r) (h1 : ∀ k, r = some k → v.ownBlock ≠ some k ∧ ∀ (j : Nat) (x : BxH), hs[j]? = some x → x.mv.ownBlock ≠ some k) : StO B w' v bs hs := by
  have sh : ∀ {α : Type} {E : Enc α} {m : Value} {l : List α}, RBuf E B w w m l → (∀ k, r = some k → m.ownBlock ≠ some k) → RBuf E B w' w' m l := fun {α E m l} hm hf => by
    refine hm.shift hg ?_
    cases hb : m.ownBlock with
    | none => exact .inl rfl
    | some k => exact .inr (fun e => hf k e.symm hb)
  exact ⟨sh h.row (fun k hk => (h1 k hk).1), h.len, fun j x b e1 e2 => ⟨(h.at' j x b e1 e2).1, sh (h.at' j x b e1 e2).2 (fun k hk => (h1 k hk).2 j x e1)⟩, h.far, h.apart⟩
/-- Where they lie: from B on, and below the heap's end. -/
theorem StO.where' {B : Nat} {w : World} {v : Value} {bs : List Bx} {hs : List BxH} (h : StO B w v bs hs) : (∀ k, v.ownBlock = some k → B ≤ k ∧ k < w.heap.size) ∧ ∀ (j : Nat) (x : BxH), hs[j]? = some x → ∀ k, x.mv.ownBlock = some k → B ≤ k ∧ k < w.heap.size := by
  refine ⟨fun k hk => h.row.own.lt k hk, fun j x hj k hk => ?_⟩
  have hl : j < hs.length := (List.getElem?_eq_some_iff.1 hj).1
  have hb : bs[j]? = some (bs[j]'(by rw [← h.len]; exact hl)) := List.getElem?_eq_getElem _
  exact (h.at' j x _ hj hb).2.own.lt k hk
/-- What is written from B' on, above them, leaves them. -/
theorem StO.under {B C : Nat} {w w' : World} {v : Value} {bs : List Bx} {hs : List BxH} (h : StO B w v bs hs) (hb : Below C w w') (h1 : ∀ k, v.ownBlock = some k → k < C) (h2 : ∀ (j : Nat) (x : BxH), hs[j]? = some x → ∀ k, x.mv.ownBlock = some k → k < C) : StO B w' v bs hs := by
  have sh : ∀ {α : Type} {E : Enc α} {m : Value} {l : List α}, RBuf E B w w m l → (∀ k, m.ownBlock = some k → k < C) → RBuf E B w' w' m l := fun {α E m l} hm hf => by
    refine ⟨⟨hm.own.1, ?_⟩, Below.refl _ _, Nat.le_trans hm.le hb.size⟩
    rcases hm.own.2 with e | ⟨g, cap, cur, rfl, hg, hh, hrest⟩
    · exact .inl e
    · exact .inr ⟨g, cap, cur, rfl, hg, (hb.block g (hf g rfl)).trans hh, hrest⟩
  exact ⟨sh h.row h1, h.len, fun j x b e1 e2 => ⟨(h.at' j x b e1 e2).1, sh (h.at' j x b e1 e2).2 (h2 j x e1)⟩, h.far, h.apart⟩
theorem StO.lower {B B0 : Nat} {w : World} {v : Value} {bs : List Bx} {hs : List BxH} (h : StO B w v bs hs) (hB : B0 ≤ B) : StO B0 w v bs hs :=
  ⟨h.row.lower hB, h.len, fun j x b h1 h2 => ⟨(h.at' j x b h1 h2).1, (h.at' j x b h1 h2).2.lower hB⟩, h.far, h.apart⟩

end Go.Proofs.YtahebgceoidebaaGreat

/- What a list of numbers is that a call builds in memory of its own, and the laws by which it grows, is read and is written. -/
namespace Go.Proofs.YtahebgceoidebaaGreat
open Go.RowKit

theorem Tryz.info_int : (Tryz.prog.info? 3).map (fun i => (i.zero, i.size, i.bytes)) = some (some (.int .i64 0), 1, 8) := by kernel_rfl

def intV (l : List Int) : List Value := l.map fun c => .int .i64 c
theorem intV_length (l : List Int) : (intV l).length = l.length := by simp [intV]

/-- The slice v holds the numbers l in memory that the call made itself (blocks from B on); below B all is as it was in w0. -/
structure IBuf (B : Nat) (w0 w : World) (v : Value) (l : List Int) : Prop where
  own : w.ownsRow B 3 1 v l.length (intV l)
  bel : Below B w0 w
  le : B ≤ w.heap.size

theorem IBuf.alloc {B : Nat} {w0 w : World} {v : Value} {l : List Int} (h : IBuf B w0 w v l) (o : Obj) : IBuf B w0 (w.alloc o) v l :=
  ⟨h.own.alloc o, h.bel.alloc h.le o, by have := h.le; simp; omega⟩
theorem IBuf.drew {B : Nat} {w0 w : World} {v : Value} {l : List Int} (h : IBuf B w0 w v l) : IBuf B w0 w.drew v l :=
  ⟨h.own.drew, h.bel.drew, h.le⟩
theorem IBuf.fresh (w : World) : IBuf w.heap.size w (w.alloc (.cells #[] 3)) (.slice (some ⟨w.heap.size, 0, none⟩) 0 0) [] :=
  ⟨World.ownsRow_made w #[] 0 (Nat.le_refl _) (by decide) rfl, (Below.refl _ _).alloc (Nat.le_refl _) _, by simp⟩

/-- What is laid behind the heap's end, and nothing else, leaves the numbers where they are. -/
theorem IBuf.later {B : Nat} {w0 w w' : World} {v : Value} {l : List Int} (h : IBuf B w0 w v l) (hb : Below w.heap.size w w') : IBuf B w0 w' v l := by
  have hg : w.grownBy w' none := ⟨hb.os, hb.tape, hb.output, hb.size, fun k hk _ => hb.block k hk⟩
  refine ⟨h.own.kept hg ?_, h.bel.trans (hb.mono h.le), Nat.le_trans h.le hb.size⟩
  cases hv : v.ownBlock with
  | none => exact .inl rfl
  | some k => exact .inr (by simp)

theorem wpList_append_int {w0 w : World} {ops : Array Oper} {rest : List Oper} {o : Oper} {a : Act} {Q : Exit → Act → World → Prop} (hgd : o.guard = none) (s x : Operand)
    (ho : o.op = .call { callee := .builtin .append, args := #[s, x], argTypes := #[26, 26] })
    (B : Nat) (v : Value) (l : List Int) (hs : a.eval s = v) (hb : IBuf B w0 w v l)
    (ad : Addr) (t : Int) (hx : a.eval x = .slice (some ad) 1 1)
    (hnews : ∀ j u, [Value.int .i64 t][j]? = some u → w.cell? (ad.add j) = some u)
    (hlen : l.length + 1 ≤ 8796093022208)
    (h : ∀ v' w', IBuf B w0 w' v' (l ++ [t]) → wpList Tryz.prog ops Q rest (a.put o.dst v') w') : wpList Tryz.prog ops Q (o :: rest) a w := by
  obtain ⟨i0, hi, hz0, hz1, hz2⟩ := info_parts Tryz.info_int
  refine wpList_append_own _ hgd s x 26 ho B 3 i0 (.int .i64 0) 1 8 Tryz.underlying26 hi hz0 hz1 hz2 rfl (by decide) v l.length (intV l) hs hb.own ad 1 1 [.int .i64 t] hx (by simp) hnews ?_ (by unfold maxLen; omega) (by omega) hb.le ?_
  · intro u hu
    simp at hu
    subst hu
    rfl
  · intro v' w' hown hgrow _
    refine h v' w' ⟨?_, hb.bel.grown hgrow hb.le (fun k hk => (hb.own.lt k hk).1), Nat.le_trans hb.le hgrow.size⟩
    have e1 : (l ++ [t]).length = l.length + 1 := by simp
    have e2 : intV (l ++ [t]) = intV l ++ [.int .i64 t] := by simp [intV]
    rw [e1, e2]
    exact hown

theorem IBuf.form {B : Nat} {w0 w : World} {v : Value} {l : List Int} (h : IBuf B w0 w v l) : ∃ (a : Option Addr) (cap : Nat), v = .slice a l.length cap := by
  rcases h.own.2 with ⟨rfl, h0⟩ | ⟨g, cap, cur, rfl, _⟩
  · exact ⟨none, 0, by rw [h0]⟩
  · exact ⟨_, _, rfl⟩

/-- Numbers that can be read: each in its cell of a row; nothing where there is none. -/
def Ints (w : World) (v : Value) (l : List Int) : Prop :=
  (l = [] ∧ ∃ (a : Option Addr) (cap : Nat), v = .slice a 0 cap) ∨
  ∃ g cap : Nat, v = .slice (some ⟨g, 0, none⟩) l.length cap ∧ l.length ≤ cap ∧ g < w.heap.size ∧ ∀ j b, l[j]? = some b → w.cell? ⟨g, j, none⟩ = some (.int .i64 b)

theorem IBuf.ints {B : Nat} {w0 w : World} {v : Value} {l : List Int} (h : IBuf B w0 w v l) : Ints w v l := by
  rcases h.own.2 with ⟨rfl, h0⟩ | ⟨g, cap, cur, rfl, hg, hh, hnc, hcp, hcs, htake⟩
  · exact .inl ⟨List.length_eq_zero_iff.1 h0, _, _, rfl⟩
  · refine .inr ⟨g, cap, rfl, hnc, (h.own.lt g rfl).2, fun j b hj => ?_⟩
    have hlt : j < l.length := (List.getElem?_eq_some_iff.1 hj).1
    rw [h.own.cellAt j (by omega)]
    simp [intV, hj]

theorem Ints.later {w w' : World} {v : Value} {l : List Int} (h : Ints w v l) (hb : Below w.heap.size w w') : Ints w' v l := by
  rcases h with h | ⟨g, cap, hv, hc, hg, hcl⟩
  · exact .inl h
  · exact .inr ⟨g, cap, hv, hc, Nat.lt_of_lt_of_le hg hb.size, fun j b hj => (hb.cell (p := ⟨g, j, none⟩) hg).trans (hcl j b hj)⟩

/-- A store into the row. -/
theorem IBuf.stored {B : Nat} {w0 w : World} {g cap : Nat} {l : List Int} (h : IBuf B w0 w (.slice (some ⟨g, 0, none⟩) l.length cap) l) (j : Nat) (t : Int) :
    IBuf B w0 (w.setCell ⟨g, j, none⟩ (.int .i64 t)) (.slice (some ⟨g, 0, none⟩) l.length cap) (l.set j t) := by
  have hst := h.own.stored j (.int .i64 t)
  have e : intV (l.set j t) = (intV l).set j (.int .i64 t) := by simp [intV, List.map_set]
  refine ⟨?_, h.bel.setCell (h.own.lt g rfl).1 _, by have := h.le; simpa using this⟩
  have hl : (l.set j t).length = l.length := by simp
  rw [hl, e]
  exact hst.1

theorem IBuf.under {w0 w1 w : World} {v : Value} {l : List Int} (hb : Below w0.heap.size w0 w1) (h : IBuf w1.heap.size w1 w v l) : IBuf w0.heap.size w0 w v l := by
  refine ⟨⟨h.own.1, ?_⟩, hb.trans (h.bel.mono hb.size), Nat.le_trans hb.size h.le⟩
  rcases h.own.2 with h1 | ⟨g, cap, cur, h1, h2, h3⟩
  · exact .inl h1
  · exact .inr ⟨g, cap, cur, h1, Nat.le_trans hb.size h2, h3⟩

end Go.Proofs.YtahebgceoidebaaGreat

/- What records tell: the model's numbers in their order. -/
namespace Go.Proofs.YtahebgceoidebaaGreat
open Go.RowKit

theorem filt_yes {p : Int → Bool} {l : List Int} {i : Nat} {b : Int} (h : l[i]? = some b) (hp : p b = true) : (l.take (i + 1)).filter p = (l.take i).filter p ++ [b] := by
  rw [List.take_add_one, h, List.filter_append]
  simp [hp]
theorem filt_no {p : Int → Bool} {l : List Int} {i : Nat} {b : Int} (h : l[i]? = some b) (hp : p b = false) : (l.take (i + 1)).filter p = (l.take i).filter p := by
  rw [List.take_add_one, h, List.filter_append]
  simp [hp]
theorem filt_len (p : Int → Bool) (l : List Int) (i : Nat) : ((l.take i).filter p).length ≤ l.length :=
  Nat.le_trans (List.length_filter_le _ _) (List.length_take_le' _ _)
theorem one_intS (w : World) (t : Int) : ∀ j u, [Value.int .i64 t][j]? = some u → (w.alloc (.cells #[.int .i64 t] 3)).cell? ((⟨w.heap.size, 0, none⟩ : Addr).add j) = some u := by
  intro j u hj
  have : j = 0 := by have := (List.getElem?_eq_some_iff.1 hj).1; simp at this; exact this
  subst this
  simp at hj
  subst hj
  simp [Addr.add]

set_option maxRecDepth 100000 in
set_option maxHeartbeats 2000000 in
theorem specSorted_any (l : List Int) (v : Value) (x : Int) (w : World) (h : Ints w v l) (hl : l.length ≤ 1000000) :
    Calls Tryz.prog 34 #[v, .int .i64 x] w fun e w' => ∃ v', e = .returned v' ∧ IBuf w.heap.size w w' v' (insI l x) := by
  obtain ⟨ad, cap, rfl, hrow⟩ : ∃ (ad : Option Addr) (cap : Nat), v = .slice ad l.length cap ∧ ∀ X, Below w.heap.size w X → ∀ i b, l[i]? = some b → ∃ g, ad = some ⟨g, 0, none⟩ ∧ X.cell? ⟨g, i, none⟩ = some (.int .i64 b) := by
    rcases h with ⟨rfl, a, c, rfl⟩ | ⟨g, c, rfl, hc, hg, hcl⟩
    · exact ⟨a, c, rfl, fun X _ i x hi => by cases hi⟩
    · exact ⟨_, c, rfl, fun X hb i b hi => ⟨g, rfl, (hb.cell (p := ⟨g, i, none⟩) hg).trans (hcl i b hi)⟩⟩
  have HR := Lib.hid hrow
  clear h hrow
  have hst := IBuf.fresh w
  go_enter Tryz.func34, Tryz.ntmps34
  go_wp2
  go_loopw [5, 6] (fun ov iv wr => ∃ i : Nat, i ≤ l.length ∧ iv = .int .i64 (i : Int) ∧ IBuf w.heap.size w wr ov ((l.take i).filter (fun y => decide (y < x)))) (fun _ iv _ => l.length - (intOf iv).toNat)
  case atStart => exact ⟨0, by omega, rfl, hst⟩
  case round =>
    clear hst
    obtain ⟨i, hi, rfl, hb⟩ := hrel
    have hfl := filt_len (fun y => decide (y < x)) l i
    obtain ⟨oa, oc, rfl⟩ := hb.form
    by_cases hlt : i < l.length
    · have hgx : l[i]? = some l[i] := List.getElem?_eq_getElem hlt
      obtain ⟨g, rfl, c0⟩ := HR.out _ hb.bel i _ hgx
      generalize l[i] = b at *
      have hi0 : (0 : Int) ≤ (i : Int) := by omega
      have hi1 : (i : Int) < (l.length : Int) := by omega
      by_cases hbx : b < x
      · have HE := Lib.hid (filt_yes (p := fun y => decide (y < x)) hgx (decide_eq_true hbx))
        clear hgx
        generalize (l.take i).filter (fun y => decide (y < x)) = L at *
        have HB := Lib.hid hb
        clear hb
        go_wp2_with (at_builtin; refine wpList_append_int rfl _ _ rfl _ _ L rfl (HB.out.alloc _) ⟨wr.heap.size, 0, none⟩ b rfl ?c1 ?c2 ?_)
        case c1 => exact one_intS _ _
        case c2 => omega
        intro v' w4 hb4
        have HB4 := Lib.hid hb4
        clear hb4 c0
        go_wp2
        exact ⟨⟨i + 1, by omega, by simp, by rw [HE.out]; exact HB4.out⟩, by first | omega | (simp [intOf]; omega)⟩
      · have HE := Lib.hid (filt_no (p := fun y => decide (y < x)) hgx (decide_eq_false hbx))
        clear hgx
        generalize (l.take i).filter (fun y => decide (y < x)) = L at *
        have HB := Lib.hid hb
        clear hb
        go_wp2
        exact ⟨⟨i + 1, by omega, by simp, by rw [HE.out]; exact HB.out⟩, by first | omega | (simp [intOf]; omega)⟩
    · have hie : i = l.length := by omega
      subst hie
      rw [List.take_length] at hb hfl ⊢
      have HF : Hid (l.filter (fun y => decide (y < x)) ++ (x :: l.filter (fun y => decide (x < y))) = insI l x) := rfl
      generalize l.filter (fun y => decide (y < x)) = L at *
      have HB := Lib.hid hb
      clear hb
      go_wp2_with (at_builtin; refine wpList_append_int rfl _ _ rfl _ _ L rfl (HB.out.alloc _) ⟨wr.heap.size, 0, none⟩ x rfl ?c1 ?c2 ?_)
      case c1 => exact one_intS _ _
      case c2 => omega
      intro v' w4 hb4
      have HB4 := Lib.hid hb4
      clear HB hb4
      go_wp2
      go_loopw [5, 7] (fun ov iv wr => ∃ i : Nat, i ≤ l.length ∧ iv = .int .i64 (i : Int) ∧ IBuf w.heap.size w wr ov (L ++ [x] ++ (l.take i).filter (fun y => decide (x < y)))) (fun _ iv _ => l.length - (intOf iv).toNat)
      case atStart => exact ⟨0, by omega, rfl, by simpa using HB4.out⟩
      case round =>
        clear HB4
        obtain ⟨i, hi, rfl, hb⟩ := hrel
        have hfl2 := filt_len (fun y => decide (x < y)) l i
        by_cases hlt : i < l.length
        · have hgx : l[i]? = some l[i] := List.getElem?_eq_getElem hlt
          obtain ⟨g, rfl, c0⟩ := HR.out _ hb.bel i _ hgx
          generalize l[i] = b at *
          have hi0 : (0 : Int) ≤ (i : Int) := by omega
          have hi1 : (i : Int) < (l.length : Int) := by omega
          by_cases hbx : x < b
          · have HE := Lib.hid (filt_yes (p := fun y => decide (x < y)) hgx (decide_eq_true hbx))
            clear hgx
            generalize (l.take i).filter (fun y => decide (x < y)) = M at *
            have hml : (L ++ [x] ++ M).length ≤ 2000001 := by simp; omega
            have HB := Lib.hid hb
            clear hb
            generalize hK : L ++ [x] ++ M = K at *
            go_wp2_with (at_builtin; refine wpList_append_int rfl _ _ rfl _ _ K rfl (HB.out.alloc _) ⟨wr.heap.size, 0, none⟩ b rfl ?c1 ?c2 ?_)
            case c1 => exact one_intS _ _
            case c2 => omega
            intro v' w5 hb5
            have HB5 := Lib.hid hb5
            clear hb5 c0
            go_wp2
            exact ⟨⟨i + 1, by omega, by simp, by rw [HE.out, ← List.append_assoc, hK]; exact HB5.out⟩, by first | omega | (simp [intOf]; omega)⟩
          · have HE := Lib.hid (filt_no (p := fun y => decide (x < y)) hgx (decide_eq_false hbx))
            clear hgx
            generalize (l.take i).filter (fun y => decide (x < y)) = M at *
            have HB := Lib.hid hb
            clear hb
            go_wp2
            exact ⟨⟨i + 1, by omega, by simp, by rw [HE.out]; exact HB.out⟩, by first | omega | (simp [intOf]; omega)⟩
        · have hie : i = l.length := by omega
          subst hie
          rw [List.take_length] at hb
          have HB := Lib.hid hb
          clear hb
          go_wp2
          go_ret
          have e : L ++ [x] ++ l.filter (fun y => decide (x < y)) = insI l x := by rw [← HF.out]; simp
          have hb' := HB.out
          rw [e] at hb'
          exact ⟨_, rfl, hb'⟩

end Go.Proofs.YtahebgceoidebaaGreat

/- What records tell: the model's mails of a box. -/
namespace Go.Proofs.YtahebgceoidebaaGreat
open Go.RowKit

theorem uidK_yes {valid : Int} {l : List Itm} {x : Itm} (h1 : x.2.kind = 3) (h2 : x.2.valid = valid) (h3 : bestR 5 valid x.2.uid l = none) : uidK valid l x = some x.2.uid := if_pos ⟨h1, h2, h3⟩
theorem uidK_no {valid : Int} {l : List Itm} {x : Itm} (h : ¬ (x.2.kind = 3 ∧ x.2.valid = valid ∧ bestR 5 valid x.2.uid l = none)) : uidK valid l x = none := if_neg h
theorem up_yes {f : Itm → Option Int} {l : List Itm} {i : Nat} {x : Itm} {us : List Int} {n : Int} (hst : upOf f (l.take (i + 1)) = match f x with | some n => insI us n | none => us) (h : f x = some n) : upOf f (l.take (i + 1)) = insI us n := by rw [hst, h]
theorem up_no {f : Itm → Option Int} {l : List Itm} {i : Nat} {x : Itm} {us : List Int} (hst : upOf f (l.take (i + 1)) = match f x with | some n => insI us n | none => us) (h : f x = none) : upOf f (l.take (i + 1)) = us := by rw [hst, h]
theorem mailK_own {valid u : Int} {l : List Itm} (h : bestR 4 valid u l = none) : mailK valid l u = ⟨u, (bestX (bestR 3 valid u l)).2.flags, (bestX (bestR 3 valid u l)).2.text⟩ := by
  unfold mailK; rw [h]
  cases bestR 3 valid u l <;> rfl
theorem mailK_flag {valid u : Int} {l : List Itm} {y : Itm} (h : bestR 4 valid u l = some y) : mailK valid l u = ⟨u, y.2.flags, (bestX (bestR 3 valid u l)).2.text⟩ := by
  unfold mailK; rw [h]
  cases bestR 3 valid u l <;> rfl

set_option maxRecDepth 100000 in
set_option maxHeartbeats 4000000 in
theorem specMails_any (l : List Itm) (v : Value) (valid : Int) (w : World) (h : Rows' itE w v l) (hl : l.length ≤ 1000) :
    Calls Tryz.prog 37 #[v, .int .i64 valid] w fun e w' => ∃ v', e = .returned v' ∧ RBuf mlE w.heap.size w w' v' (mailsOf valid l) := by
  obtain ⟨ad, cap, rfl, hrow⟩ := h.items
  have HR := Lib.hid hrow
  have HW : Hid (∀ X, Below w.heap.size w X → Rows' itE X (.slice ad l.length cap) l) := fun X hb => h.later hb
  clear h hrow
  have I0 := IBuf.fresh w
  have HU : Hid (∀ i, (upOf (uidK valid l) (l.take i)).length ≤ 1000 ∨ l.length < i) := fun i => by
    by_cases c : i ≤ l.length
    · have := upOf_len (uidK valid l) l i; exact .inl (by omega)
    · exact .inr (by omega)
  go_enter Tryz.func37, Tryz.ntmps37
  go_wp2
  go_loopw [5, 6] (fun uv iv wr => ∃ i : Nat, i ≤ l.length ∧ iv = .int .i64 (i : Int) ∧ IBuf w.heap.size w wr uv (upOf (uidK valid l) (l.take i))) (fun _ iv _ => l.length - (intOf iv).toNat)
  case atStart => exact ⟨0, by omega, rfl, I0⟩
  case round =>
    clear I0
    obtain ⟨i, hi, rfl, I⟩ := hrel
    by_cases hlt : i < l.length
    · have hgx : l[i]? = some l[i] := List.getElem?_eq_getElem hlt
      have hst := upOf_take (f := uidK valid l) hgx
      obtain ⟨ga, oa, rfl, a0, a1, a2, a3, a4, a5, a6, a7, a8⟩ := HR.out _ I.bel i _ hgx
      generalize l[i] = x at *
      obtain ⟨sq, K, V, U, N, FL, US, NM, TX⟩ := x
      simp only at a0 a1 a2 a3 a4 a5 a6 a7 a8
      have hlu : (upOf (uidK valid l) (l.take i)).length ≤ 1000 := by rcases HU.out i with c | c; exact c; omega
      generalize upOf (uidK valid l) (l.take i) = us at *
      have HST := Lib.hid hst
      have hi0 : (0 : Int) ≤ (i : Int) := by omega
      have hi1 : (i : Int) < (l.length : Int) := by omega
      clear hst hgx
      have J1 := I.alloc (.cells #[.int .i64 K, .int .i64 V, .int .i64 U, .int .i64 N, .int .i64 FL, .string US, .string NM, .string TX] 47)
      have X1 := Box.new wr #[.int .i64 K, .int .i64 V, .int .i64 U, .int .i64 N, .int .i64 FL, .string US, .string NM, .string TX] 47
      obtain ⟨o, ho⟩ : ∃ o, bestR 5 valid U l = o := ⟨_, rfl⟩
      have HO := Lib.hid ho
      obtain ⟨z0, z1, z2, z3, z4, z5, z6, z7, _⟩ := X1.eight
      clear I
      go_wp2_with fail
      clear a0 a1 a2 a3 a4 a5 a6 a7 a8 z0 z1 z2 z3 z4 z5 z6 z7
      generalize wr.alloc (.cells #[.int .i64 K, .int .i64 V, .int .i64 U, .int .i64 N, .int .i64 FL, .string US, .string NM, .string TX] 47) = w1 at J1 X1 ⊢
      generalize wr.heap.size = g7 at X1 ⊢
      refine (specBest_any l _ 5 valid U _ (HW.out _ J1.bel) (by omega)).mono ?_
      rintro e w2 ⟨rfl, k2⟩
      rw [bestT_eq, ho]
      unfold itV
      have J2 := (J1.later k2).alloc (.cells #[.int .i64 (bestX o).1, .int .i64 (bestX o).2.kind, .int .i64 (bestX o).2.valid, .int .i64 (bestX o).2.uid, .int .i64 (bestX o).2.next, .int .i64 (bestX o).2.flags, .string (bestX o).2.user, .string (bestX o).2.name, .string (bestX o).2.text] 49)
      have X2 := (X1.later k2).later (belNew w2 (.cells #[.int .i64 (bestX o).1, .int .i64 (bestX o).2.kind, .int .i64 (bestX o).2.valid, .int .i64 (bestX o).2.uid, .int .i64 (bestX o).2.next, .int .i64 (bestX o).2.flags, .string (bestX o).2.user, .string (bestX o).2.name, .string (bestX o).2.text] 49))
      clear J1 X1 k2 ho
      go_upto_region 7 with fail
      generalize w2.alloc (.cells #[.int .i64 (bestX o).1, .int .i64 (bestX o).2.kind, .int .i64 (bestX o).2.valid, .int .i64 (bestX o).2.uid, .int .i64 (bestX o).2.next, .int .i64 (bestX o).2.flags, .string (bestX o).2.user, .string (bestX o).2.name, .string (bestX o).2.text] 49) = w3 at J2 X2 ⊢
      generalize w2.heap.size = g8
      obtain ⟨z0, z1, z2, z3, z4, z5, z6, z7, _⟩ := X2.eight
      by_cases hK : K = 3
      · subst hK
        by_cases hV : V = valid
        · subst hV
          cases o with
          | none =>
            have HE : Hid (upOf (uidK V l) (l.take (i + 1)) = insI us U) := up_yes HST.out (uidK_yes (x := (sq, ⟨3, V, U, N, FL, US, NM, TX⟩)) rfl rfl HO.out)
            have hn : (none : Option Itm).isSome = false := rfl
            go_wp2_with fail
            refine (specSorted_any us _ U _ J2.ints (by omega)).mono ?_
            rintro e w4 ⟨v4, rfl, J4⟩
            have J5 := IBuf.under J2.bel J4
            clear J4 J2 X2 z0 z1 z2 z3 z4 z5 z6 z7
            go_wp2
            exact ⟨⟨i + 1, by omega, by simp, by rw [HE.out]; exact J5⟩, by first | omega | (simp [intOf]; omega)⟩
          | some y =>
            have HE : Hid (upOf (uidK V l) (l.take (i + 1)) = us) := up_no HST.out (uidK_no (x := (sq, ⟨3, V, U, N, FL, US, NM, TX⟩)) (fun c => by have := c.2.2; simp only at this; rw [HO.out] at this; cases this))
            have hn : (some y : Option Itm).isSome = true := rfl
            clear X2
            go_wp2
            exact ⟨⟨i + 1, by omega, by simp, by rw [HE.out]; exact J2⟩, by first | omega | (simp [intOf]; omega)⟩
        · have HE : Hid (upOf (uidK valid l) (l.take (i + 1)) = us) := up_no HST.out (uidK_no (x := (sq, ⟨3, V, U, N, FL, US, NM, TX⟩)) (fun c => hV c.2.1))
          have hV2 : (V == valid) = false := beq_eq_false_iff_ne.2 hV
          clear X2
          go_wp2
          exact ⟨⟨i + 1, by omega, by simp, by rw [HE.out]; exact J2⟩, by first | omega | (simp [intOf]; omega)⟩
      · have HE : Hid (upOf (uidK valid l) (l.take (i + 1)) = us) := up_no HST.out (uidK_no (x := (sq, ⟨K, V, U, N, FL, US, NM, TX⟩)) (fun c => hK c.1))
        have hK2 : (K == 3) = false := beq_eq_false_iff_ne.2 hK
        clear X2
        go_wp2
        exact ⟨⟨i + 1, by omega, by simp, by rw [HE.out]; exact J2⟩, by first | omega | (simp [intOf]; omega)⟩
    · have hge : ¬ (i : Int) < (l.length : Int) := by omega
      have hil : i = l.length := by omega
      have hlu : (upOf (uidK valid l) (l.take i)).length ≤ 1000 := by rcases HU.out i with c | c; exact c; omega
      have HM : Hid (mailsOf valid l = (upOf (uidK valid l) (l.take i)).map (mailK valid l)) := by
        show mailsOf valid l = _
        rw [hil, List.take_length]; rfl
      generalize upOf (uidK valid l) (l.take i) = us at *
      clear hil HU hi
      obtain ⟨wa, hwa⟩ : ∃ wa, wa = wr := ⟨_, rfl⟩
      subst hwa
      have hbw := I.bel
      have hiu := I.ints
      obtain ⟨ua, uc, rfl, hur⟩ : ∃ (ua : Option Addr) (uc : Nat), u5 = .slice ua us.length uc ∧ ∀ X, Below wa.heap.size wa X → ∀ j b, us[j]? = some b → ∃ g, ua = some ⟨g, 0, none⟩ ∧ g < wa.heap.size ∧ X.cell? ⟨g, j, none⟩ = some (.int .i64 b) := by
        rcases hiu with ⟨rfl, a, c, rfl⟩ | ⟨g, c, rfl, hc, hg, hcl⟩
        · exact ⟨a, c, rfl, fun X _ i x hi => by cases hi⟩
        · exact ⟨_, c, rfl, fun X hb i b hi => ⟨g, rfl, hg, (hb.cell (p := ⟨g, i, none⟩) hg).trans (hcl i b hi)⟩⟩
      have HUR := Lib.hid hur
      have R0 := RBuf.fresh mlE wa
      clear hur hiu I
      go_wp2
      clear hge
      go_loopw [10, 11] (fun ov iv wr => ∃ j : Nat, j ≤ us.length ∧ iv = .int .i64 (j : Int) ∧ RBuf mlE wa.heap.size wa wr ov ((us.take j).map (mailK valid l))) (fun _ iv _ => us.length - (intOf iv).toNat)
      case atStart => exact ⟨0, by omega, rfl, R0⟩
      case round =>
        clear R0
        obtain ⟨j, hj, rfl, I⟩ := hrel
        by_cases hlj : j < us.length
        · have hgu : us[j]? = some us[j] := List.getElem?_eq_getElem hlj
          have htk : (us.take (j + 1)).map (mailK valid l) = (us.take j).map (mailK valid l) ++ [mailK valid l us[j]] := by
            rw [List.take_add_one, hgu, List.map_append]; rfl
          have hur := HUR.out
          obtain ⟨ug, rfl, hug, c0⟩ := hur _ I.bel j _ hgu
          have HCU : Hid (∀ X, Below wa.heap.size wa X → X.cell? ⟨ug, j, none⟩ = some (.int .i64 us[j])) := fun X hb => by
            obtain ⟨g2, e2, _, c2⟩ := HUR.out X hb j _ hgu
            cases e2
            exact c2
          generalize us[j] = u at *
          clear hur hgu
          have hj0 : (0 : Int) ≤ (j : Int) := by omega
          have hj1 : (j : Int) < (us.length : Int) := by omega
          obtain ⟨o3, ho3⟩ : ∃ o, bestR 3 valid u l = o := ⟨_, rfl⟩
          obtain ⟨o4, ho4⟩ : ∃ o, bestR 4 valid u l = o := ⟨_, rfl⟩
          have HO4 := Lib.hid ho4
          have HO3 := Lib.hid ho3
          have HTK := Lib.hid htk
          clear htk
          go_wp2_with fail
          clear c0
          refine (specBest_any l _ 3 valid u _ (HW.out _ (hbw.trans (I.bel.mono hbw.size))) (by omega)).mono ?_
          rintro e w1 ⟨rfl, k1⟩
          rw [bestT_eq, ho3]
          unfold itV
          have I2 := (I.later k1).alloc (.cells #[.int .i64 (bestX o3).1, .int .i64 (bestX o3).2.kind, .int .i64 (bestX o3).2.valid, .int .i64 (bestX o3).2.uid, .int .i64 (bestX o3).2.next, .int .i64 (bestX o3).2.flags, .string (bestX o3).2.user, .string (bestX o3).2.name, .string (bestX o3).2.text] 49)
          have X2 := Box.new w1 #[.int .i64 (bestX o3).1, .int .i64 (bestX o3).2.kind, .int .i64 (bestX o3).2.valid, .int .i64 (bestX o3).2.uid, .int .i64 (bestX o3).2.next, .int .i64 (bestX o3).2.flags, .string (bestX o3).2.user, .string (bestX o3).2.name, .string (bestX o3).2.text] 49
          clear I k1
          go_upto_region 14 with fail
          generalize w1.alloc (.cells #[.int .i64 (bestX o3).1, .int .i64 (bestX o3).2.kind, .int .i64 (bestX o3).2.valid, .int .i64 (bestX o3).2.uid, .int .i64 (bestX o3).2.next, .int .i64 (bestX o3).2.flags, .string (bestX o3).2.user, .string (bestX o3).2.name, .string (bestX o3).2.text] 49) = w2 at I2 X2 ⊢
          generalize w1.heap.size = gi at X2 ⊢
          obtain ⟨y3, hy3⟩ : ∃ y3, bestX o3 = y3 := ⟨_, rfl⟩
          rw [hy3] at X2 ⊢
          have HY3 := Lib.hid hy3
          clear hy3
          have c0 := HCU.out _ I2.bel
          obtain ⟨p0, p1, p2, p3, p4, p5, p6, p7, p8, _⟩ := X2.nine
          have c0 : w2.drew.cell? ⟨ug, j, none⟩ = some (.int .i64 u) := HCU.out _ (I2.bel.trans ((Below.refl w2.heap.size w2).drew.mono I2.le))
          have p5 : w2.drew.cell? ⟨gi, 5, none⟩ = some (.int .i64 y3.2.flags) := p5
          have p8 : w2.drew.cell? ⟨gi, 8, none⟩ = some (.string y3.2.text) := p8
          have n1 := World.new_ne _ _ c0
          have n2 := World.new_ne _ _ p5
          go_region_held3 (fun X => X.cell? ⟨ug, j, none⟩ = some (.int .i64 u) ∧ X.cell? ⟨gi, 5, none⟩ = some (.int .i64 y3.2.flags) ∧ X.cell? ⟨gi, 8, none⟩ = some (.string y3.2.text)) (go_keep) (fail)
          rename_i hHeld
          clear hHeld p0 p1 p2 p3 p4 p5 p6 p7 p8 n1 n2 c0
          have I3 := (I2.alloc (.cells #[.int .i64 u, .int .i64 y3.2.flags, .string y3.2.text] 69)).drew
          have X3 : Box (w2.alloc (.cells #[.int .i64 u, .int .i64 y3.2.flags, .string y3.2.text] 69)).drew w2.heap.size #[.int .i64 u, .int .i64 y3.2.flags, .string y3.2.text] 69 := Box.new w2 #[.int .i64 u, .int .i64 y3.2.flags, .string y3.2.text] 69
          have HLE : Hid (wa.heap.size ≤ w2.heap.size ∧ (u10.ownBlock = none ∨ u10.ownBlock ≠ some w2.heap.size)) := ⟨I2.le, by
            cases hv : u10.ownBlock with
            | none => exact .inl rfl
            | some k => exact .inr (fun e => by cases e; have := (I2.own.lt _ hv).2; omega)⟩
          clear I2 X2
          generalize (w2.alloc (.cells #[.int .i64 u, .int .i64 y3.2.flags, .string y3.2.text] 69)).drew = w3 at I3 X3 ⊢
          have HGB : Hid (wa.heap.size ≤ w2.heap.size) := Nat.le_trans HLE.out.1 (Nat.le_refl _)
          have HNB : Hid (u10.ownBlock = none ∨ u10.ownBlock ≠ some w2.heap.size) := HLE.out.2
          generalize w2.heap.size = gm at X3 HGB HNB ⊢
          have c0 := HCU.out _ I3.bel
          go_wp2_with fail
          clear c0
          refine (specBest_any l _ 4 valid u _ (HW.out _ (hbw.trans (I3.bel.mono hbw.size))) (by omega)).mono ?_
          rintro e w4 ⟨rfl, k4⟩
          rw [bestT_eq, ho4]
          unfold itV
          have I5 := (I3.later k4).alloc (.cells #[.int .i64 (bestX o4).1, .int .i64 (bestX o4).2.kind, .int .i64 (bestX o4).2.valid, .int .i64 (bestX o4).2.uid, .int .i64 (bestX o4).2.next, .int .i64 (bestX o4).2.flags, .string (bestX o4).2.user, .string (bestX o4).2.name, .string (bestX o4).2.text] 49)
          have X5 := Box.new w4 #[.int .i64 (bestX o4).1, .int .i64 (bestX o4).2.kind, .int .i64 (bestX o4).2.valid, .int .i64 (bestX o4).2.uid, .int .i64 (bestX o4).2.next, .int .i64 (bestX o4).2.flags, .string (bestX o4).2.user, .string (bestX o4).2.name, .string (bestX o4).2.text] 49
          have Y5 := (X3.later k4).later (belNew w4 (.cells #[.int .i64 (bestX o4).1, .int .i64 (bestX o4).2.kind, .int .i64 (bestX o4).2.valid, .int .i64 (bestX o4).2.uid, .int .i64 (bestX o4).2.next, .int .i64 (bestX o4).2.flags, .string (bestX o4).2.user, .string (bestX o4).2.name, .string (bestX o4).2.text] 49))
          have hne5 : gm ≠ w4.heap.size := by have := (X3.later k4).lt; omega
          clear I3 X3 k4
          go_upto_region 16 with fail
          generalize w4.alloc (.cells #[.int .i64 (bestX o4).1, .int .i64 (bestX o4).2.kind, .int .i64 (bestX o4).2.valid, .int .i64 (bestX o4).2.uid, .int .i64 (bestX o4).2.next, .int .i64 (bestX o4).2.flags, .string (bestX o4).2.user, .string (bestX o4).2.name, .string (bestX o4).2.text] 49) = w5 at I5 X5 Y5 ⊢
          generalize w4.heap.size = gj at X5 hne5 ⊢
          cases o4 with
          | none =>
            have HE : Hid (mailK valid l u = ⟨u, y3.2.flags, y3.2.text⟩) := by rw [← HY3.out, ← HO3.out]; exact mailK_own HO4.out
            have hn : (none : Option Itm).isSome = false := rfl
            obtain ⟨m0, m1, m2, _, _, _⟩ := Y5.three
            clear X5 Y5
            have R6 := (I5.alloc (.cells #[.int .i64 u, .int .i64 y3.2.flags, .string y3.2.text] 69)).here
            have L6 := RBuf.lit1 mlE w5 ⟨u, y3.2.flags, y3.2.text⟩
            have HR6 := Lib.hid R6
            have HL6 := Lib.hid L6
            have HI5 := Lib.hid (I5.alloc (.cells #[.int .i64 u, .int .i64 y3.2.flags, .string y3.2.text] 69))
            have hll : ((us.take j).map (mailK valid l)).length ≤ 1000 := by simp; omega
            clear R6 L6 I5
            go_wp2_with (at_builtin; refine wpList_append_rows rfl _ _ mlE rfl wa.heap.size _ _ rfl HR6.out w5.heap.size _ [⟨u, y3.2.flags, y3.2.text⟩] rfl HL6.out (by show _ * 33 ≤ _; simp only [List.length_cons, List.length_nil]; omega) ?_; intro v6 w6 r6 g6 at6)
            exact ⟨⟨j + 1, by omega, by simp, by rw [HTK.out, HE.out]; exact ⟨r6.own, HI5.out.bel.grown g6 HI5.out.le (fun k hk => (HI5.out.own.lt k hk).1), r6.le⟩⟩, by first | omega | (simp [intOf]; omega)⟩
          | some y4 =>
            have HE : Hid (mailK valid l u = ⟨u, y4.2.flags, y3.2.text⟩) := by rw [← HY3.out, ← HO3.out]; exact mailK_flag HO4.out
            have hn : (some y4 : Option Itm).isSome = true := rfl
            have hbx : bestX (some y4) = y4 := rfl
            rw [hbx] at X5
            obtain ⟨q0, q1, q2, q3, q4, q5, q6, q7, q8, _⟩ := X5.nine
            obtain ⟨m0, m1, m2, mf0, mf1, mf2⟩ := Y5.three
            have Z5 : Box (w5.setCell ⟨gm, 1, none⟩ (.int .i64 y4.2.flags)) gm #[.int .i64 u, .int .i64 y4.2.flags, .string y3.2.text] 69 := Y5.set 1 _
            have hgB : wa.heap.size ≤ gm := HGB.out
            have J5 : RBuf mlE wa.heap.size wa (w5.setCell ⟨gm, 1, none⟩ (.int .i64 y4.2.flags)) u10 ((us.take j).map (mailK valid l)) := I5.grown (stored_grown w5 gm 1 _) (HNB.out) (fun k hk => by cases hk; exact hgB)
            go_upto_region 18 with fail
            clear X5 Y5 q0 q1 q2 q3 q4 q5 q6 q7 q8 m0 m1 m2 mf0 mf1 mf2 I5
            generalize w5.setCell ⟨gm, 1, none⟩ (.int .i64 y4.2.flags) = w7 at J5 Z5 ⊢
            have I5 := J5
            clear J5
            obtain ⟨m0, m1, m2, _, _, _⟩ := Z5.three
            clear Z5
            have R6 := (I5.alloc (.cells #[.int .i64 u, .int .i64 y4.2.flags, .string y3.2.text] 69)).here
            have L6 := RBuf.lit1 mlE w7 ⟨u, y4.2.flags, y3.2.text⟩
            have HR6 := Lib.hid R6
            have HL6 := Lib.hid L6
            have HI5 := Lib.hid (I5.alloc (.cells #[.int .i64 u, .int .i64 y4.2.flags, .string y3.2.text] 69))
            have hll : ((us.take j).map (mailK valid l)).length ≤ 1000 := by simp; omega
            clear R6 L6 I5
            go_wp2_with (at_builtin; refine wpList_append_rows rfl _ _ mlE rfl wa.heap.size _ _ rfl HR6.out w7.heap.size _ [⟨u, y4.2.flags, y3.2.text⟩] rfl HL6.out (by show _ * 33 ≤ _; simp only [List.length_cons, List.length_nil]; omega) ?_; intro v6 w6 r6 g6 at6)
            exact ⟨⟨j + 1, by omega, by simp, by rw [HTK.out, HE.out]; exact ⟨r6.own, HI5.out.bel.grown g6 HI5.out.le (fun k hk => (HI5.out.own.lt k hk).1), r6.le⟩⟩, by first | omega | (simp [intOf]; omega)⟩
        · have hge : ¬ (j : Int) < (us.length : Int) := by omega
          have hjl : j = us.length := by omega
          rw [hjl, List.take_length, ← HM.out] at I
          have HI := Lib.hid (I.down (hbw.trans (I.bel.mono hbw.size)) hbw.size)
          clear I
          go_wp2
          go_ret
          exact ⟨_, rfl, HI.out⟩

end Go.Proofs.YtahebgceoidebaaGreat
