/- Texts of our own, joined. -/
import Derived.Test.YtahebgceoidebaaGreatJj
import Derived.Test.YtahebgceoidebaaGreatJe
import Derived.Test.YtahebgceoidebaaGreatJi
import Derived.Test.YtahebgceoidebaaGreatJb
import Derived.Laws.StructEq
import Derived.WalkSpells
import Derived.WalkSmall
import Derived.Test.YtahebgceoidebaaGreatJc
/- NeededAll and Needed of the model. -/
namespace Go.Proofs.YtahebgceoidebaaGreat
open Go.RowKit

noncomputable def needL (l : List Itm) : List Bool := needP l (decide (itemsOk l)) l.length
theorem needL_len (l : List Itm) : (needL l).length = l.length := needP_len l _ _ (Nat.le_refl _)

set_option maxRecDepth 100000 in
set_option maxHeartbeats 4000000 in
theorem specNeededAll_any (l : List Itm) (v : Value) (w : World) (h : Rows' itE w v l) (hl : l.length ≤ 1048576) (hz : ∀ x ∈ l, x.2.user.size ≤ 1048576 ∧ x.2.name.size ≤ 1048576 ∧ x.2.text.size ≤ 1048576) :
    Calls Tryz.prog 22 #[v] w fun e w' => ∃ v', e = .returned v' ∧ RBuf boE w.heap.size w w' v' (needL l) := by
  have HIO := Lib.hid (fun x (hx : Below w.heap.size w x) => specItemsOk_any l v x (h.later hx) (by omega) (fun y hy => by have := hz y hy; omega))
  have HND : Hid (itemsOk l → ∀ (k : Nat) (y : Itm), l[k]? = some y → ∀ x, Below w.heap.size w x → Calls Tryz.prog 48 #[v, .int .i64 (k : Int)] x fun e w' => e = .returned (.bool (needB l k y)) ∧ Below x.heap.size x w') := fun hok k y hk x hx => specNeed_any l v k y x (h.later hx) hl hk ((hok.1 y (List.mem_of_getElem? hk)).2.1)
  obtain ⟨ad, cap, rfl, _⟩ := h.items
  clear h hz
  have HE : Hid (needL l = needP l (decide (itemsOk l)) l.length) := by show _ = _; rfl
  have HOK : Hid (decide (itemsOk l) = true → itemsOk l) := fun h => of_decide_eq_true h
  generalize needL l = R at HE ⊢
  generalize decide (itemsOk l) = ok at HIO HE HOK
  obtain ⟨n, hn⟩ : ∃ n, l.length = n := ⟨_, rfl⟩
  rw [hn] at hl HE HIO HND
  rw [hn]
  have HN := Lib.hid hn
  clear hn
  go_enter Tryz.func22, Tryz.ntmps22
  go_wp2_with fail
  refine (HIO.out _ (Below.refl _ _)).mono ?_
  rintro e w1 ⟨rfl, k1⟩
  clear HIO
  have I0 := (RBuf.fresh boE w1).down (k1.trans ((belNew w1 (.cells #[] boE.ty)).mono k1.size)) k1.size
  go_wp2
  go_loopw [4, 5] (fun v iv wr => ∃ i : Nat, i ≤ n ∧ iv = .int .i64 (i : Int) ∧ RBuf boE w.heap.size w wr v (needP l ok i)) (fun _ iv _ => n - (intOf iv).toNat)
  case atStart => exact ⟨0, by omega, rfl, I0⟩
  case round =>
    clear I0 k1
    obtain ⟨i, hi, rfl, I⟩ := hrel
    by_cases hlt : i < n
    · obtain ⟨x, hgx⟩ : ∃ x, l[i]? = some x := ⟨_, List.getElem?_eq_getElem (by rw [HN.out]; exact hlt)⟩
      have HST := Lib.hid (needP_step (ok := ok) hgx)
      have hlu := needP_len l ok i (by rw [HN.out]; exact hi)
      have hl2 : (needP l ok i).length ≤ 1048576 := by omega
      clear hlu
      generalize needP l ok i = us at HST I hl2
      have hi0 : (0 : Int) ≤ (i : Int) := by omega
      have hi1 : (i : Int) < (n : Int) := by omega
      cases ok with
      | false =>
        have HR6 := Lib.hid (I.alloc (.cells #[.bool false] 4))
        have HL6 := Lib.hid (RBuf.lit1 boE wr false)
        clear hgx I HND
        go_wp2_with (at_builtin; refine wpList_append_rows rfl _ _ boE rfl w.heap.size _ _ rfl HR6.out.here wr.heap.size _ [false] rfl HL6.out (by show _ * 2 ≤ _; simp only [List.length_cons, List.length_nil]; omega) ?_; intro v6 w6 r6 g6 at6)
        exact ⟨⟨i + 1, by omega, by simp, by rw [HST.out]; exact ⟨r6.own, HR6.out.bel.grown g6 HR6.out.le (fun k hk => (HR6.out.own.lt k hk).1), r6.le⟩⟩, by first | omega | (simp [intOf]; omega)⟩
      | true =>
        have HNK := Lib.hid (HND.out (HOK.out rfl) i x hgx _ I.bel)
        generalize needB l i x = D at HST HNK
        clear hgx
        go_wp2_with fail
        refine HNK.out.mono ?_
        rintro e w5 ⟨rfl, k5⟩
        have HR6 := Lib.hid ((I.later k5).alloc (.cells #[.bool D] 4))
        have HL6 := Lib.hid (RBuf.lit1 boE w5 D)
        clear I k5 HNK
        go_wp2_with (at_builtin; refine wpList_append_rows rfl _ _ boE rfl w.heap.size _ _ rfl HR6.out.here w5.heap.size _ [D] rfl HL6.out (by show _ * 2 ≤ _; simp only [List.length_cons, List.length_nil]; omega) ?_; intro v6 w6 r6 g6 at6)
        exact ⟨⟨i + 1, by omega, by simp, by rw [HST.out, Bool.true_and]; exact ⟨r6.own, HR6.out.bel.grown g6 HR6.out.le (fun k hk => (HR6.out.own.lt k hk).1), r6.le⟩⟩, by first | omega | (simp [intOf]; omega)⟩
    · go_wp2
      go_ret
      refine ⟨_, rfl, ?_⟩
      have hil : i = n := by omega
      rw [HE.out, ← hil]
      exact I

theorem soB_need {l : List Itm} {k : Nat} {x : Itm} (h : l[k]? = some x) : soB (needL l) (k : Int) = (decide (itemsOk l) && needB l k x) := by
  rw [soB_nat]
  have hk := (List.getElem?_eq_some_iff.1 h).1
  have : ∀ (n : Nat), k < n → n ≤ l.length → (needP l (decide (itemsOk l)) n)[k]? = some (decide (itemsOk l) && needB l k x) := by
    intro n
    induction n with
    | zero => intro h1; omega
    | succ m ih =>
      intro h1 h2
      have hm : l[m]? = some l[m] := List.getElem?_eq_getElem (by omega)
      rw [needP_step hm]
      have hl := needP_len l (decide (itemsOk l)) m (by omega)
      by_cases c : k < m
      · rw [List.getElem?_append_left (by omega)]
        exact ih c (by omega)
      · have e : k = m := by omega
        subst e
        rw [List.getElem?_append_right (by omega), hl, Nat.sub_self]
        rw [h] at hm
        cases hm
        rfl
  unfold needL
  rw [this l.length hk (Nat.le_refl _)]
  cases (decide (itemsOk l) && needB l k x) <;> rfl
theorem soB_out {d : List Bool} {k : Int} (h : ¬ (0 ≤ k ∧ k ≤ (d.length : Int) - 1)) : soB d k = false := by
  unfold soB
  refine decide_eq_false (fun c => h ⟨c.1, ?_⟩)
  have := (List.getElem?_eq_some_iff.1 c.2).1
  omega

set_option maxRecDepth 100000 in
set_option maxHeartbeats 4000000 in
theorem specNeeded_any (l : List Itm) (v : Value) (k : Int) (w : World) (h : Rows' itE w v l) (hl : l.length ≤ 1048576) (hz : ∀ x ∈ l, x.2.user.size ≤ 1048576 ∧ x.2.name.size ≤ 1048576 ∧ x.2.text.size ≤ 1048576) :
    Calls Tryz.prog 23 #[v, .int .i64 k] w fun e w' => e = .returned (.bool (soB (needL l) k)) ∧ Below w.heap.size w w' := by
  have HIO := Lib.hid (specItemsOk_any l v w h (by omega) (fun y hy => by have := hz y hy; omega))
  have HND : Hid (itemsOk l → ∀ (k : Nat) (y : Itm), l[k]? = some y → ∀ x, Below w.heap.size w x → Calls Tryz.prog 48 #[v, .int .i64 (k : Int)] x fun e w' => e = .returned (.bool (needB l k y)) ∧ Below x.heap.size x w') := fun hok k y hk x hx => specNeed_any l v k y x (h.later hx) hl hk ((hok.1 y (List.mem_of_getElem? hk)).2.1)
  have HLN := Lib.hid (needL_len l)
  obtain ⟨ad, cap, rfl, _⟩ := h.items
  clear h hz
  by_cases hin : 0 ≤ k ∧ k ≤ (l.length : Int) - 1
  · obtain ⟨q, rfl⟩ : ∃ q : Nat, k = (q : Int) := ⟨k.toNat, by omega⟩
    obtain ⟨x, hx⟩ : ∃ x, l[q]? = some x := ⟨_, List.getElem?_eq_getElem (by omega)⟩
    rw [soB_need hx]
    by_cases hok : itemsOk l
    · have HNK := Lib.hid (fun X hX => HND.out hok q x hx X hX)
      rw [decide_eq_true hok] at HIO ⊢
      rw [Bool.true_and]
      generalize needB l q x = D at HNK ⊢
      clear hx hok HND HLN
      have hwr : IntKind.i64.wrap ((l.length : Int) - 1) = (l.length : Int) - 1 := IntWalk.i64_in _ ⟨by omega, by omega⟩
      go_enter Tryz.func23, Tryz.ntmps23
      go_wp2_with fail
      refine HIO.out.mono ?_
      rintro e w1 ⟨rfl, k1⟩
      go_wp2_with fail
      refine (l01In_yes _ _ _ _ (by omega) (by omega)).mono ?_
      rintro e w2 ⟨rfl, rfl⟩
      go_wp2_with fail
      refine (HNK.out _ k1).mono ?_
      rintro e w3 ⟨rfl, k3⟩
      have bE := k1.trans (k3.mono k1.size)
      go_wp2
      go_ret
      exact ⟨rfl, bE⟩
    · rw [decide_eq_false hok] at HIO ⊢
      rw [Bool.false_and]
      clear hx hok HND HLN
      go_enter Tryz.func23, Tryz.ntmps23
      go_wp2_with fail
      refine HIO.out.mono ?_
      rintro e w1 ⟨rfl, k1⟩
      go_wp2
      go_ret
      exact ⟨rfl, k1⟩
  · rw [soB_out (by rw [HLN.out]; exact hin)]
    generalize decide (itemsOk l) = ok at HIO
    clear HND HLN
    cases ok with
    | true =>
      have hwr : IntKind.i64.wrap ((l.length : Int) - 1) = (l.length : Int) - 1 := IntWalk.i64_in _ ⟨by omega, by omega⟩
      go_enter Tryz.func23, Tryz.ntmps23
      go_wp2_with fail
      refine HIO.out.mono ?_
      rintro e w1 ⟨rfl, k1⟩
      go_wp2_with fail
      refine (l01In_no _ _ _ _ (by omega)).mono ?_
      rintro e w2 ⟨rfl, rfl⟩
      go_wp2
      go_ret
      exact ⟨rfl, k1⟩
    | false =>
      go_enter Tryz.func23, Tryz.ntmps23
      go_wp2_with fail
      refine HIO.out.mono ?_
      rintro e w1 ⟨rfl, k1⟩
      go_wp2
      go_ret
      exact ⟨rfl, k1⟩

end Go.Proofs.YtahebgceoidebaaGreat

/- What is shrunk, plainly. -/
namespace Go.Proofs.YtahebgceoidebaaGreat

/-- Which of the first i go. -/
def shP (d nd : List Bool) : Nat → List Bool
  | 0 => []
  | i + 1 => shP d nd i ++ [decide (d[i]? = some true) && !decide (nd[i]? = some true)]
theorem shP_len (d nd : List Bool) : ∀ i, (shP d nd i).length = i
  | 0 => rfl
  | i + 1 => by
    show (shP d nd i ++ _).length = _
    rw [List.length_append, shP_len d nd i]; rfl
noncomputable def goL (l : List Itm) (d : List Bool) : List Bool := shP d (needL l) l.length
/-- While they are reckoned: the rest is false. -/
def goQ (d nd : List Bool) (n i : Nat) : List Bool := shP d nd i ++ List.replicate (n - i) false
theorem goQ_len {d nd : List Bool} {n i : Nat} (h : i ≤ n) : (goQ d nd n i).length = n := by
  unfold goQ
  rw [List.length_append, shP_len, List.length_replicate]
  omega
theorem goQ_at {d nd : List Bool} {n i : Nat} (h : i < n) : (goQ d nd n i)[i]? = some false := by
  unfold goQ
  rw [List.getElem?_append_right (by rw [shP_len]; omega), shP_len, Nat.sub_self, List.getElem?_replicate, if_pos (by omega)]
theorem goQ_set {d nd : List Bool} {n i : Nat} (h : i < n) : (goQ d nd n i).set i (decide (d[i]? = some true) && !decide (nd[i]? = some true)) = goQ d nd n (i + 1) := by
  unfold goQ
  rw [List.set_append_right _ _ (by rw [shP_len]; omega), shP_len, Nat.sub_self]
  show _ = (shP d nd i ++ _) ++ _
  rw [List.append_assoc]
  congr 1
  rw [show n - i = (n - (i + 1)) + 1 by omega, List.replicate_succ, List.set_cons_zero]
  rfl

/-- What is put behind, of the first i. -/
def moreT (m : List Rc) (seq : Int) : Nat → List Itm
  | 0 => []
  | i + 1 => moreT m seq i ++ ((m[i]?).toList.map (fun r => (IntKind.i64.wrap (seq + (i : Int)), r)))
theorem moreT_step {m : List Rc} {seq : Int} {i : Nat} {r : Rc} (h : m[i]? = some r) : moreT m seq (i + 1) = moreT m seq i ++ [(IntKind.i64.wrap (seq + (i : Int)), r)] := by
  show _ ++ _ = _
  rw [h]; rfl
theorem moreT_len {m : List Rc} {seq : Int} : ∀ i, i ≤ m.length → (moreT m seq i).length = i
  | 0, _ => rfl
  | i + 1, h => by
    rw [moreT_step (List.getElem?_eq_getElem (show i < m.length by omega)), List.length_append, moreT_len i (by omega)]
    rfl
noncomputable def shr (l : List Itm) (d : List Bool) (seq : Int) : List Itm := wo l (goL l d) ++ moreT (nxs (stateL (wo l (goL l d))) (stateL l)) seq (nxs (stateL (wo l (goL l d))) (stateL l)).length
theorem shr_len (l : List Itm) (d : List Bool) (seq : Int) (hl : l.length ≤ 1048576) : (shr l d seq).length ≤ 2097152 := by
  unfold shr
  rw [List.length_append, moreT_len _ (Nat.le_refl _)]
  have h1 := wo_len l (goL l d)
  have h2 := nxs_len (stateL (wo l (goL l d))) (stateL l)
  have h3 := (stateL_small l).1
  omega

end Go.Proofs.YtahebgceoidebaaGreat

/- Records: what the program's WordOk hands back, the rights of its five kinds of records, and records told apart and back. -/
namespace Go.Proofs.YtahebgceoidebaaGreat
open Go.RowKit

set_option maxRecDepth 100000 in
set_option maxHeartbeats 1000000 in
theorem implWordOk_any (s : ByteArray) (w : World) :
    Calls Tryz.prog 139 #[.string s] w fun e w' => e = .returned (.bool (decide (wdOk s))) ∧ Below w.heap.size w w' := by
  by_cases hin : 1 ≤ s.size ∧ s.size ≤ 8
  · obtain ⟨hin1, hin2⟩ := hin
    have h1 : ¬ (s.size : Int) < 1 := by omega
    have h2 : ¬ (8 : Int) < (s.size : Int) := by omega
    have hconv : ∀ wx, (convert 9 22 (.string s)).run Tryz.prog wx = .ok (.slice (some ⟨wx.heap.size, 0, none⟩) s.size (grownCap wx s.size 0 5)) (Lib.bytesWorld wx 5 s) :=
      fun wx => Lib.run_convert_string_bytes (P := Tryz.prog) wx 9 22 5 s Tryz.underlying9 Tryz.underlying22 Tryz.underlying5
    have hbel : Below w.heap.size w (Lib.bytesWorld w 5 s) :=
      (Below.refl _ _).grown (⟨rfl, rfl, rfl, by rw [Lib.bytesWorld_size]; omega, fun k hk _ => Lib.bytesWorld_at_old w 5 s k hk⟩ : w.grownBy (Lib.bytesWorld w 5 s) none) (Nat.le_refl _) (fun k hk => by cases hk)
    obtain ⟨o, ho1, ho2⟩ := bytes_block w s
    have hcells := ho2 _ ho1
    go_enter Tryz.func139, Tryz.ntmps139
    go_wp2
    clear hconv ho1 ho2
    generalize hbw : Lib.bytesWorld w 5 s = w2 at *
    clear hbw
    go_loop [16] (fun iv => ∃ i : Nat, i ≤ s.size ∧ iv = .int .i64 (i : Int) ∧ ∀ j (hj : j < s.size), j < i → 97 ≤ s[j].toNat ∧ s[j].toNat ≤ 122) (fun iv => s.size - (intOf iv).toNat)
    case atStart => exact ⟨0, by omega, rfl, fun j _ hj => by omega⟩
    case round =>
      obtain ⟨i, hi, rfl, hall⟩ := hrel
      have HA := Lib.hid hall
      clear hall
      by_cases hlt : i < s.size
      · have hlt' : (i : Int) < (s.size : Int) := by omega
        have hcell := hcells i hlt
        have HB : Hid (¬ (97 ≤ s[i].toNat ∧ s[i].toNat ≤ 122) → decide (wdOk s) = false) := fun h => decide_eq_false (fun hw => h (hw.2 _ (by
          show s.data[i] ∈ s.data.toList
          exact Array.getElem_mem_toList _)))
        have HN : Hid (97 ≤ s[i].toNat ∧ s[i].toNat ≤ 122 → ∀ j (hj : j < s.size), j < i + 1 → 97 ≤ s[j].toNat ∧ s[j].toNat ≤ 122) := by
          intro h j hj hji
          by_cases e : j = i
          · subst e; exact h
          · exact HA.out j hj (by omega)
        clear hcells
        generalize s[i].toNat = c at hcell HB HN
        by_cases q1 : c < 97
        · have q1' : (c : Int) < 97 := by omega
          go_wp2
          go_ret
          exact ⟨by rw [HB.out (by omega)]; rfl, hbel⟩
        · have q1' : ¬ (c : Int) < 97 := by omega
          by_cases q2 : 122 < c
          · have q2' : (122 : Int) < (c : Int) := by omega
            go_wp2
            go_ret
            exact ⟨by rw [HB.out (by omega)]; rfl, hbel⟩
          · have q2' : ¬ (122 : Int) < (c : Int) := by omega
            go_wp2
            go_round
            case rel => exact ⟨i + 1, by omega, by go_num, HN.out ⟨by omega, by omega⟩⟩
            case measure => simp [intOf]; omega
      · have hge : ¬ (i : Int) < (s.size : Int) := by omega
        have HE : Hid (decide (wdOk s) = true) := show _ = _ from decide_eq_true ⟨⟨hin1, hin2⟩, fun b hb => by
          obtain ⟨j, hj, rfl⟩ := List.getElem_of_mem hb
          have hj2 : j < s.size := by rw [← tl_len]; exact hj
          exact HA.out j hj2 (by omega)⟩
        clear hcells
        go_wp2
        go_ret
        exact ⟨by rw [HE.out]; rfl, hbel⟩
  · have hd : Hid (decide (wdOk s) = false) := show _ = _ from decide_eq_false (fun h => hin h.1)
    by_cases h1 : (s.size : Int) < 1
    · go_enter Tryz.func139, Tryz.ntmps139
      go_wp2
      go_ret
      exact ⟨by rw [hd.out]; rfl, Below.refl _ _⟩
    · have h2 : (8 : Int) < (s.size : Int) := by omega
      go_enter Tryz.func139, Tryz.ntmps139
      go_wp2
      go_ret
      exact ⟨by rw [hd.out]; rfl, Below.refl _ _⟩

theorem validOk_yes (n : Int) (w : World) (h1 : 1 ≤ n) (h2 : n ≤ 9999) : Calls Tryz.prog 137 #[.int .i64 n] w fun e w' => e = .returned (.bool true) ∧ w = w' := by
  go_enter Tryz.func137, Tryz.ntmps137
  go_wp2
  go_ret
  simp
theorem validOk_no (n : Int) (w : World) (h : ¬ (1 ≤ n ∧ n ≤ 9999)) : Calls Tryz.prog 137 #[.int .i64 n] w fun e w' => e = .returned (.bool false) ∧ w = w' := by
  by_cases h1 : 1 ≤ n
  · have h2 : ¬ n ≤ 9999 := fun h2 => h ⟨h1, h2⟩
    go_enter Tryz.func137, Tryz.ntmps137
    go_wp2
    go_ret
    simp
  · go_enter Tryz.func137, Tryz.ntmps137
    go_wp2
    go_ret
    simp
theorem flagsOk_any (n : Int) (w : World) : Calls Tryz.prog 142 #[.int .i64 n] w fun e w' => e = .returned (.bool (decide (0 ≤ n ∧ n ≤ 7))) ∧ w = w' := by
  by_cases h1 : 0 ≤ n
  · have e : decide (0 ≤ n ∧ n ≤ 7) = decide (n ≤ 7) := by simp [h1]
    rw [e]
    go_enter Tryz.func142, Tryz.ntmps142
    go_wp2
    go_ret
    simp
  · have e : decide (0 ≤ n ∧ n ≤ 7) = false := by simp [h1]
    rw [e]
    go_enter Tryz.func142, Tryz.ntmps142
    go_wp2
    go_ret
    simp

/-- What the five kinds of records ask for. -/
def bxP (v n : Int) (u m : ByteArray) : Prop := (1 ≤ v ∧ v ≤ 9999) ∧ (1 ≤ n ∧ n ≤ 10000) ∧ wdOk u ∧ wdOk m
instance (v n : Int) (u m : ByteArray) : Decidable (bxP v n u m) := by unfold bxP; infer_instance
def adP (v u f : Int) (t : ByteArray) : Prop := (1 ≤ v ∧ v ≤ 9999) ∧ (1 ≤ u ∧ u ≤ 9999) ∧ (0 ≤ f ∧ f ≤ 7) ∧ t.size ≤ 100
instance (v u f : Int) (t : ByteArray) : Decidable (adP v u f t) := by unfold adP; infer_instance
def flP (v u f : Int) : Prop := (1 ≤ v ∧ v ≤ 9999) ∧ (1 ≤ u ∧ u ≤ 9999) ∧ (0 ≤ f ∧ f ≤ 7)
instance (v u f : Int) : Decidable (flP v u f) := by unfold flP; infer_instance
def goP (v u : Int) : Prop := (1 ≤ v ∧ v ≤ 9999) ∧ (1 ≤ u ∧ u ≤ 9999)
instance (v u : Int) : Decidable (goP v u) := by unfold goP; infer_instance

theorem nextOk_any (n : Int) (w : World) : Calls Tryz.prog 138 #[.int .i64 n] w fun e w' => e = .returned (.bool (decide (1 ≤ n ∧ n ≤ 10000))) ∧ w = w' := by
  by_cases h1 : 1 ≤ n
  · have e : decide (1 ≤ n ∧ n ≤ 10000) = decide (n ≤ 10000) := by simp [h1]
    rw [e]
    go_enter Tryz.func138, Tryz.ntmps138
    go_wp2
    go_ret
    simp
  · have e : decide (1 ≤ n ∧ n ≤ 10000) = false := by simp [h1]
    rw [e]
    go_enter Tryz.func138, Tryz.ntmps138
    go_wp2
    go_ret
    simp
theorem nextOk_yes (n : Int) (w : World) (h1 : 1 ≤ n) (h2 : n ≤ 10000) : Calls Tryz.prog 138 #[.int .i64 n] w fun e w' => e = .returned (.bool true) ∧ w = w' := by
  have h := nextOk_any n w
  rwa [decide_eq_true (show 1 ≤ n ∧ n ≤ 10000 from ⟨h1, h2⟩)] at h
theorem nextOk_no (n : Int) (w : World) (h1 : ¬ (1 ≤ n ∧ n ≤ 10000)) : Calls Tryz.prog 138 #[.int .i64 n] w fun e w' => e = .returned (.bool false) ∧ w = w' := by
  have h := nextOk_any n w
  rwa [decide_eq_false h1] at h

set_option maxRecDepth 100000 in
set_option maxHeartbeats 1000000 in
theorem boxRight_any (v n : Int) (u m : ByteArray) (w : World) :
    Calls Tryz.prog 136 #[.agg #[.int .i64 v, .int .i64 n, .string u, .string m]] w fun e w' => e = .returned (.bool (decide (bxP v n u m))) ∧ Below w.heap.size w w' := by
  have bx := Box.new w #[.int .i64 v, .int .i64 n, .string u, .string m] 128
  have b0 : Below w.heap.size w (w.alloc (.cells #[.int .i64 v, .int .i64 n, .string u, .string m] 128)) := (Below.refl _ _).alloc (Nat.le_refl _) _
  have c0 := bx.cell 0 _ rfl
  have c1 := bx.cell 1 _ rfl
  have c2 := bx.cell 2 _ rfl
  have c3 := bx.cell 3 _ rfl
  have BX := Lib.hid bx
  clear bx
  by_cases hv : 1 ≤ v ∧ v ≤ 9999
  · by_cases hn : 1 ≤ n ∧ n ≤ 10000
    · by_cases hu : wdOk u
      · have HE : Hid (decide (bxP v n u m) = decide (wdOk m)) := show _ = _ from decide_eq_decide.2 ⟨fun h => h.2.2.2, fun h => ⟨hv, hn, hu, h⟩⟩
        have HU : Hid (decide (wdOk u) = true) := show _ = _ from decide_eq_true hu
        have HV := Lib.hid hv
        have HN := Lib.hid hn
        clear hu hv hn
        go_enter Tryz.func136, Tryz.ntmps136
        go_wp2_with (first | (go_at_call 137; refine (validOk_yes _ _ HV.out.1 HV.out.2).mono ?_; rintro e w5 ⟨rfl, rfl⟩) | (go_at_call 138; refine (nextOk_yes _ _ HN.out.1 HN.out.2).mono ?_; rintro e w5 ⟨rfl, rfl⟩) | (go_at_call 139; refine (implWordOk_any _ _).mono ?_; rintro e w5 ⟨rfl, hb5⟩; rw [HU.out]; have c3' := (BX.out.later hb5).cell 3 _ rfl) | (go_at_call 139; refine (implWordOk_any _ _).mono ?_; rintro e w6 ⟨rfl, hb6⟩))
        go_ret
        exact ⟨by rw [HE.out]; rfl, (b0.trans (hb5.mono b0.size)).trans (hb6.mono ((b0.trans (hb5.mono b0.size)).size))⟩
      · have HE : Hid (decide (bxP v n u m) = false) := show _ = _ from decide_eq_false fun h => hu h.2.2.1
        have HU : Hid (decide (wdOk u) = false) := show _ = _ from decide_eq_false hu
        have HV := Lib.hid hv
        have HN := Lib.hid hn
        clear hu hv hn
        go_enter Tryz.func136, Tryz.ntmps136
        go_wp2_with (first | (go_at_call 137; refine (validOk_yes _ _ HV.out.1 HV.out.2).mono ?_; rintro e w5 ⟨rfl, rfl⟩) | (go_at_call 138; refine (nextOk_yes _ _ HN.out.1 HN.out.2).mono ?_; rintro e w5 ⟨rfl, rfl⟩) | (go_at_call 139; refine (implWordOk_any _ _).mono ?_; rintro e w5 ⟨rfl, hb5⟩; rw [HU.out]))
        go_ret
        exact ⟨by rw [HE.out]; rfl, b0.trans (hb5.mono b0.size)⟩
    · have HE : Hid (decide (bxP v n u m) = false) := show _ = _ from decide_eq_false fun h => hn h.2.1
      have HV := Lib.hid hv
      have HN := Lib.hid hn
      clear hv hn
      go_enter Tryz.func136, Tryz.ntmps136
      go_wp2_with (first | (go_at_call 137; refine (validOk_yes _ _ HV.out.1 HV.out.2).mono ?_; rintro e w5 ⟨rfl, rfl⟩) | (go_at_call 138; refine (nextOk_no _ _ HN.out).mono ?_; rintro e w5 ⟨rfl, rfl⟩))
      go_ret
      exact ⟨by rw [HE.out]; rfl, b0⟩
  · have HE : Hid (decide (bxP v n u m) = false) := show _ = _ from decide_eq_false fun h => hv h.1
    have HV := Lib.hid hv
    clear hv
    go_enter Tryz.func136, Tryz.ntmps136
    go_wp2_with (go_at_call 137; refine (validOk_no _ _ HV.out).mono ?_; rintro e w5 ⟨rfl, rfl⟩)
    go_ret
    exact ⟨by rw [HE.out]; rfl, b0⟩

set_option maxRecDepth 100000 in
set_option maxHeartbeats 1000000 in
theorem dropRight_any (v : Int) (w : World) :
    Calls Tryz.prog 140 #[.agg #[.int .i64 v]] w fun e w' => e = .returned (.bool (decide (1 ≤ v ∧ v ≤ 9999))) ∧ Below w.heap.size w w' := by
  have bx := Box.new w #[.int .i64 v] 130
  have b0 : Below w.heap.size w (w.alloc (.cells #[.int .i64 v] 130)) := (Below.refl _ _).alloc (Nat.le_refl _) _
  have c0 := bx.cell 0 _ rfl
  clear bx
  by_cases hv : 1 ≤ v ∧ v ≤ 9999
  · rw [decide_eq_true hv]
    go_enter Tryz.func140, Tryz.ntmps140
    go_wp2_with (go_at_call 137; first | (refine (validOk_yes _ _ (by omega) (by omega)).mono ?_; rintro e w5 ⟨rfl, rfl⟩) | (refine (validOk_no _ _ (by omega)).mono ?_; rintro e w5 ⟨rfl, rfl⟩))
    go_ret
    exact ⟨rfl, b0⟩
  · rw [decide_eq_false hv]
    go_enter Tryz.func140, Tryz.ntmps140
    go_wp2_with (go_at_call 137; first | (refine (validOk_yes _ _ (by omega) (by omega)).mono ?_; rintro e w5 ⟨rfl, rfl⟩) | (refine (validOk_no _ _ (by omega)).mono ?_; rintro e w5 ⟨rfl, rfl⟩))
    go_ret
    exact ⟨rfl, b0⟩

set_option maxRecDepth 100000 in
set_option maxHeartbeats 1000000 in
theorem goneRight_any (v u : Int) (w : World) :
    Calls Tryz.prog 144 #[.agg #[.int .i64 v, .int .i64 u]] w fun e w' => e = .returned (.bool (decide (goP v u))) ∧ Below w.heap.size w w' := by
  have bx := Box.new w #[.int .i64 v, .int .i64 u] 136
  have b0 : Below w.heap.size w (w.alloc (.cells #[.int .i64 v, .int .i64 u] 136)) := (Below.refl _ _).alloc (Nat.le_refl _) _
  have c0 := bx.cell 0 _ rfl
  have c1 := bx.cell 1 _ rfl
  clear bx
  by_cases hv : 1 ≤ v ∧ v ≤ 9999
  · by_cases hu : 1 ≤ u ∧ u ≤ 9999
    · rw [decide_eq_true (show goP v u from ⟨hv, hu⟩)]
      go_enter Tryz.func144, Tryz.ntmps144
      go_wp2_with (go_at_call 137; first | (refine (validOk_yes _ _ (by omega) (by omega)).mono ?_; rintro e w5 ⟨rfl, rfl⟩) | (refine (validOk_no _ _ (by omega)).mono ?_; rintro e w5 ⟨rfl, rfl⟩))
      go_ret
      exact ⟨rfl, b0⟩
    · rw [decide_eq_false (show ¬ goP v u from fun h => hu h.2)]
      go_enter Tryz.func144, Tryz.ntmps144
      go_wp2_with (go_at_call 137; first | (refine (validOk_yes _ _ (by omega) (by omega)).mono ?_; rintro e w5 ⟨rfl, rfl⟩) | (refine (validOk_no _ _ (by omega)).mono ?_; rintro e w5 ⟨rfl, rfl⟩))
      go_ret
      exact ⟨rfl, b0⟩
  · rw [decide_eq_false (show ¬ goP v u from fun h => hv h.1)]
    go_enter Tryz.func144, Tryz.ntmps144
    go_wp2_with (go_at_call 137; first | (refine (validOk_yes _ _ (by omega) (by omega)).mono ?_; rintro e w5 ⟨rfl, rfl⟩) | (refine (validOk_no _ _ (by omega)).mono ?_; rintro e w5 ⟨rfl, rfl⟩))
    go_ret
    exact ⟨rfl, b0⟩

set_option maxRecDepth 100000 in
set_option maxHeartbeats 1000000 in
theorem flagRight_any (v u f : Int) (w : World) :
    Calls Tryz.prog 143 #[.agg #[.int .i64 v, .int .i64 u, .int .i64 f]] w fun e w' => e = .returned (.bool (decide (flP v u f))) ∧ Below w.heap.size w w' := by
  have bx := Box.new w #[.int .i64 v, .int .i64 u, .int .i64 f] 134
  have b0 : Below w.heap.size w (w.alloc (.cells #[.int .i64 v, .int .i64 u, .int .i64 f] 134)) := (Below.refl _ _).alloc (Nat.le_refl _) _
  have c0 := bx.cell 0 _ rfl
  have c1 := bx.cell 1 _ rfl
  have c2 := bx.cell 2 _ rfl
  clear bx
  by_cases hv : 1 ≤ v ∧ v ≤ 9999
  · by_cases hu : 1 ≤ u ∧ u ≤ 9999
    · have HF : Hid (decide (0 ≤ f ∧ f ≤ 7) = decide (flP v u f)) := show _ = _ from decide_eq_decide.2 ⟨fun h => ⟨hv, hu, h⟩, fun h => h.2.2⟩
      go_enter Tryz.func143, Tryz.ntmps143
      go_wp2_with (first | (go_at_call 137; first | (refine (validOk_yes _ _ (by omega) (by omega)).mono ?_; rintro e w5 ⟨rfl, rfl⟩) | (refine (validOk_no _ _ (by omega)).mono ?_; rintro e w5 ⟨rfl, rfl⟩)) | (go_at_call 142; refine (flagsOk_any _ _).mono ?_; rintro e w5 ⟨rfl, rfl⟩; try rw [HF.out]))
      go_ret
      exact ⟨rfl, b0⟩
    · rw [decide_eq_false (show ¬ flP v u f from fun h => hu h.2.1)]
      go_enter Tryz.func143, Tryz.ntmps143
      go_wp2_with (go_at_call 137; first | (refine (validOk_yes _ _ (by omega) (by omega)).mono ?_; rintro e w5 ⟨rfl, rfl⟩) | (refine (validOk_no _ _ (by omega)).mono ?_; rintro e w5 ⟨rfl, rfl⟩))
      go_ret
      exact ⟨rfl, b0⟩
  · rw [decide_eq_false (show ¬ flP v u f from fun h => hv h.1)]
    go_enter Tryz.func143, Tryz.ntmps143
    go_wp2_with (go_at_call 137; first | (refine (validOk_yes _ _ (by omega) (by omega)).mono ?_; rintro e w5 ⟨rfl, rfl⟩) | (refine (validOk_no _ _ (by omega)).mono ?_; rintro e w5 ⟨rfl, rfl⟩))
    go_ret
    exact ⟨rfl, b0⟩

set_option maxRecDepth 100000 in
set_option maxHeartbeats 1000000 in
theorem addRight_any (v u f : Int) (t : ByteArray) (w : World) :
    Calls Tryz.prog 141 #[.agg #[.int .i64 v, .int .i64 u, .int .i64 f, .string t]] w fun e w' => e = .returned (.bool (decide (adP v u f t))) ∧ Below w.heap.size w w' := by
  have bx := Box.new w #[.int .i64 v, .int .i64 u, .int .i64 f, .string t] 132
  have b0 : Below w.heap.size w (w.alloc (.cells #[.int .i64 v, .int .i64 u, .int .i64 f, .string t] 132)) := (Below.refl _ _).alloc (Nat.le_refl _) _
  have c0 := bx.cell 0 _ rfl
  have c1 := bx.cell 1 _ rfl
  have c2 := bx.cell 2 _ rfl
  have c3 := bx.cell 3 _ rfl
  clear bx
  by_cases hv : 1 ≤ v ∧ v ≤ 9999
  · by_cases hu : 1 ≤ u ∧ u ≤ 9999
    · by_cases hf : 0 ≤ f ∧ f ≤ 7
      · have HF : Hid (decide (0 ≤ f ∧ f ≤ 7) = true) := show _ = _ from decide_eq_true hf
        have HE : Hid (decide (adP v u f t) = decide ((t.size : Int) ≤ 100)) := show _ = _ from decide_eq_decide.2 ⟨fun h => by have := h.2.2.2; omega, fun h => ⟨hv, hu, hf, by omega⟩⟩
        clear hf
        go_enter Tryz.func141, Tryz.ntmps141
        go_wp2_with (first | (go_at_call 137; first | (refine (validOk_yes _ _ (by omega) (by omega)).mono ?_; rintro e w5 ⟨rfl, rfl⟩) | (refine (validOk_no _ _ (by omega)).mono ?_; rintro e w5 ⟨rfl, rfl⟩)) | (go_at_call 142; refine (flagsOk_any _ _).mono ?_; rintro e w5 ⟨rfl, rfl⟩; try rw [HF.out]))
        go_ret
        exact ⟨by rw [HE.out]; rfl, b0⟩
      · have HF : Hid (decide (0 ≤ f ∧ f ≤ 7) = false) := show _ = _ from decide_eq_false hf
        rw [decide_eq_false (show ¬ adP v u f t from fun h => hf h.2.2.1)]
        clear hf
        go_enter Tryz.func141, Tryz.ntmps141
        go_wp2_with (first | (go_at_call 137; first | (refine (validOk_yes _ _ (by omega) (by omega)).mono ?_; rintro e w5 ⟨rfl, rfl⟩) | (refine (validOk_no _ _ (by omega)).mono ?_; rintro e w5 ⟨rfl, rfl⟩)) | (go_at_call 142; refine (flagsOk_any _ _).mono ?_; rintro e w5 ⟨rfl, rfl⟩; try rw [HF.out]))
        go_ret
        exact ⟨rfl, b0⟩
    · rw [decide_eq_false (show ¬ adP v u f t from fun h => hu h.2.1)]
      go_enter Tryz.func141, Tryz.ntmps141
      go_wp2_with (go_at_call 137; first | (refine (validOk_yes _ _ (by omega) (by omega)).mono ?_; rintro e w5 ⟨rfl, rfl⟩) | (refine (validOk_no _ _ (by omega)).mono ?_; rintro e w5 ⟨rfl, rfl⟩))
      go_ret
      exact ⟨rfl, b0⟩
  · rw [decide_eq_false (show ¬ adP v u f t from fun h => hv h.1)]
    go_enter Tryz.func141, Tryz.ntmps141
    go_wp2_with (go_at_call 137; first | (refine (validOk_yes _ _ (by omega) (by omega)).mono ?_; rintro e w5 ⟨rfl, rfl⟩) | (refine (validOk_no _ _ (by omega)).mono ?_; rintro e w5 ⟨rfl, rfl⟩))
    go_ret
    exact ⟨rfl, b0⟩

set_option maxRecDepth 100000 in
set_option maxHeartbeats 1000000 in
theorem recordOf_1 (r : Rc) (w : World) (hk : r.kind = 1) :
    Calls Tryz.prog 77 #[r.v] w fun e w' => e = .returned (.tuple #[.iface 128 (.agg #[.int .i64 r.valid, .int .i64 r.next, .string r.user, .string r.name]), .bool true]) ∧ Below w.heap.size w w' := by
  obtain ⟨c0, c1, c2, c3, c4, c5, c6, c7⟩ := (Box.new w r.cs 47).rec
  have b0 : Below w.heap.size w (w.alloc (.cells r.cs 47)) := (Below.refl _ _).alloc (Nat.le_refl _) _
  have k1 : (r.kind == 1) = true := by rw [hk]; rfl
  clear hk
  unfold Rc.v
  unfold Rc.cs at *
  go_enter Tryz.func77, Tryz.ntmps77
  go_wp2
  go_ret2
  exact ⟨rfl, b0⟩

set_option maxRecDepth 100000 in
set_option maxHeartbeats 1000000 in
theorem recordOf_2 (r : Rc) (w : World) (hk : r.kind = 2) :
    Calls Tryz.prog 77 #[r.v] w fun e w' => e = .returned (.tuple #[.iface 130 (.agg #[.int .i64 r.valid]), .bool true]) ∧ Below w.heap.size w w' := by
  obtain ⟨c0, c1, c2, c3, c4, c5, c6, c7⟩ := (Box.new w r.cs 47).rec
  have b0 : Below w.heap.size w (w.alloc (.cells r.cs 47)) := (Below.refl _ _).alloc (Nat.le_refl _) _
  have k1 : (r.kind == 1) = false := by rw [hk]; rfl
  have k2 : (r.kind == 2) = true := by rw [hk]; rfl
  clear hk
  unfold Rc.v
  unfold Rc.cs at *
  go_enter Tryz.func77, Tryz.ntmps77
  go_wp2
  go_ret2
  exact ⟨rfl, b0⟩

set_option maxRecDepth 100000 in
set_option maxHeartbeats 1000000 in
theorem recordOf_3 (r : Rc) (w : World) (hk : r.kind = 3) :
    Calls Tryz.prog 77 #[r.v] w fun e w' => e = .returned (.tuple #[.iface 132 (.agg #[.int .i64 r.valid, .int .i64 r.uid, .int .i64 r.flags, .string r.text]), .bool true]) ∧ Below w.heap.size w w' := by
  obtain ⟨c0, c1, c2, c3, c4, c5, c6, c7⟩ := (Box.new w r.cs 47).rec
  have b0 : Below w.heap.size w (w.alloc (.cells r.cs 47)) := (Below.refl _ _).alloc (Nat.le_refl _) _
  have k1 : (r.kind == 1) = false := by rw [hk]; rfl
  have k2 : (r.kind == 2) = false := by rw [hk]; rfl
  have k3 : (r.kind == 3) = true := by rw [hk]; rfl
  clear hk
  unfold Rc.v
  unfold Rc.cs at *
  go_enter Tryz.func77, Tryz.ntmps77
  go_wp2
  go_ret2
  exact ⟨rfl, b0⟩

set_option maxRecDepth 100000 in
set_option maxHeartbeats 1000000 in
theorem recordOf_4 (r : Rc) (w : World) (hk : r.kind = 4) :
    Calls Tryz.prog 77 #[r.v] w fun e w' => e = .returned (.tuple #[.iface 134 (.agg #[.int .i64 r.valid, .int .i64 r.uid, .int .i64 r.flags]), .bool true]) ∧ Below w.heap.size w w' := by
  obtain ⟨c0, c1, c2, c3, c4, c5, c6, c7⟩ := (Box.new w r.cs 47).rec
  have b0 : Below w.heap.size w (w.alloc (.cells r.cs 47)) := (Below.refl _ _).alloc (Nat.le_refl _) _
  have k1 : (r.kind == 1) = false := by rw [hk]; rfl
  have k2 : (r.kind == 2) = false := by rw [hk]; rfl
  have k3 : (r.kind == 3) = false := by rw [hk]; rfl
  have k4 : (r.kind == 4) = true := by rw [hk]; rfl
  clear hk
  unfold Rc.v
  unfold Rc.cs at *
  go_enter Tryz.func77, Tryz.ntmps77
  go_wp2
  go_ret2
  exact ⟨rfl, b0⟩

set_option maxRecDepth 100000 in
set_option maxHeartbeats 1000000 in
theorem recordOf_5 (r : Rc) (w : World) (hk : r.kind = 5) :
    Calls Tryz.prog 77 #[r.v] w fun e w' => e = .returned (.tuple #[.iface 136 (.agg #[.int .i64 r.valid, .int .i64 r.uid]), .bool true]) ∧ Below w.heap.size w w' := by
  obtain ⟨c0, c1, c2, c3, c4, c5, c6, c7⟩ := (Box.new w r.cs 47).rec
  have b0 : Below w.heap.size w (w.alloc (.cells r.cs 47)) := (Below.refl _ _).alloc (Nat.le_refl _) _
  have k1 : (r.kind == 1) = false := by rw [hk]; rfl
  have k2 : (r.kind == 2) = false := by rw [hk]; rfl
  have k3 : (r.kind == 3) = false := by rw [hk]; rfl
  have k4 : (r.kind == 4) = false := by rw [hk]; rfl
  have k5 : (r.kind == 5) = true := by rw [hk]; rfl
  clear hk
  unfold Rc.v
  unfold Rc.cs at *
  go_enter Tryz.func77, Tryz.ntmps77
  go_wp2
  go_ret2
  exact ⟨rfl, b0⟩

set_option maxRecDepth 100000 in
set_option maxHeartbeats 1000000 in
theorem recordOf_no (r : Rc) (w : World) (hk : ¬ (1 ≤ r.kind ∧ r.kind ≤ 5)) :
    Calls Tryz.prog 77 #[r.v] w fun e w' => e = .returned (.tuple #[.nilIface, .bool false]) ∧ Below w.heap.size w w' := by
  obtain ⟨c0, c1, c2, c3, c4, c5, c6, c7⟩ := (Box.new w r.cs 47).rec
  have b0 : Below w.heap.size w (w.alloc (.cells r.cs 47)) := (Below.refl _ _).alloc (Nat.le_refl _) _
  have k1 : (r.kind == 1) = false := beq_eq_false_iff_ne.2 (by omega)
  have k2 : (r.kind == 2) = false := beq_eq_false_iff_ne.2 (by omega)
  have k3 : (r.kind == 3) = false := beq_eq_false_iff_ne.2 (by omega)
  have k4 : (r.kind == 4) = false := beq_eq_false_iff_ne.2 (by omega)
  have k5 : (r.kind == 5) = false := beq_eq_false_iff_ne.2 (by omega)
  clear hk
  unfold Rc.v
  unfold Rc.cs at *
  go_enter Tryz.func77, Tryz.ntmps77
  go_wp2
  go_ret2
  exact ⟨rfl, b0⟩

end Go.Proofs.YtahebgceoidebaaGreat

/- Records: what the program's recOf tells back. -/
namespace Go.Proofs.YtahebgceoidebaaGreat
open Go.RowKit

set_option maxRecDepth 100000 in
set_option maxHeartbeats 1000000 in
theorem recOf_1 (v n : Int) (u m : ByteArray) (w : World) :
    Calls Tryz.prog 78 #[.iface 128 (.agg #[.int .i64 v, .int .i64 n, .string u, .string m])] w fun e w' => e = .returned (Rc.v ⟨1, v, 0, n, 0, u, m, emp⟩) ∧ Below w.heap.size w w' := by
  have t1 : ∀ wx, (Instr.typeAssert (.iface 128 (.agg #[.int .i64 v, .int .i64 n, .string u, .string m])) 113 128 true).run Tryz.prog wx = .ok (.tuple #[.agg #[.int .i64 v, .int .i64 n, .string u, .string m], .bool true]) wx := fun _ => by kernel_rfl
  go_enter Tryz.func78, Tryz.ntmps78
  go_wp2
  refine bodyPost_ret (v := Rc.v ⟨1, v, 0, n, 0, u, m, emp⟩) (by simp [results, Tryz.results78, go_sem, Rc.v, emp]) rfl ?_
  exact ⟨rfl, ((Below.refl _ _).alloc (Nat.le_refl _) _).alloc (by simp) _⟩

set_option maxRecDepth 100000 in
set_option maxHeartbeats 1000000 in
theorem recOf_2 (v : Int) (w : World) :
    Calls Tryz.prog 78 #[.iface 130 (.agg #[.int .i64 v])] w fun e w' => e = .returned (Rc.v ⟨2, v, 0, 0, 0, emp, emp, emp⟩) ∧ Below w.heap.size w w' := by
  have t1 : ∀ wx, (Instr.typeAssert (.iface 130 (.agg #[.int .i64 v])) 113 128 true).run Tryz.prog wx = .ok (.tuple #[.agg #[.int .i64 0, .int .i64 0, .string ⟨#[]⟩, .string ⟨#[]⟩], .bool false]) wx := fun _ => by kernel_rfl
  have t2 : ∀ wx, (Instr.typeAssert (.iface 130 (.agg #[.int .i64 v])) 113 130 true).run Tryz.prog wx = .ok (.tuple #[.agg #[.int .i64 v], .bool true]) wx := fun _ => by kernel_rfl
  go_enter Tryz.func78, Tryz.ntmps78
  go_wp2
  refine bodyPost_ret (v := Rc.v ⟨2, v, 0, 0, 0, emp, emp, emp⟩) (by simp [results, Tryz.results78, go_sem, Rc.v, emp]) rfl ?_
  exact ⟨rfl, ((Below.refl _ _).alloc (Nat.le_refl _) _).alloc (by simp) _⟩

set_option maxRecDepth 100000 in
set_option maxHeartbeats 1000000 in
theorem recOf_3 (v u f : Int) (t : ByteArray) (w : World) :
    Calls Tryz.prog 78 #[.iface 132 (.agg #[.int .i64 v, .int .i64 u, .int .i64 f, .string t])] w fun e w' => e = .returned (Rc.v ⟨3, v, u, 0, f, emp, emp, t⟩) ∧ Below w.heap.size w w' := by
  have t1 : ∀ wx, (Instr.typeAssert (.iface 132 (.agg #[.int .i64 v, .int .i64 u, .int .i64 f, .string t])) 113 128 true).run Tryz.prog wx = .ok (.tuple #[.agg #[.int .i64 0, .int .i64 0, .string ⟨#[]⟩, .string ⟨#[]⟩], .bool false]) wx := fun _ => by kernel_rfl
  have t2 : ∀ wx, (Instr.typeAssert (.iface 132 (.agg #[.int .i64 v, .int .i64 u, .int .i64 f, .string t])) 113 130 true).run Tryz.prog wx = .ok (.tuple #[.agg #[.int .i64 0], .bool false]) wx := fun _ => by kernel_rfl
  have t3 : ∀ wx, (Instr.typeAssert (.iface 132 (.agg #[.int .i64 v, .int .i64 u, .int .i64 f, .string t])) 113 132 true).run Tryz.prog wx = .ok (.tuple #[.agg #[.int .i64 v, .int .i64 u, .int .i64 f, .string t], .bool true]) wx := fun _ => by kernel_rfl
  go_enter Tryz.func78, Tryz.ntmps78
  go_wp2
  refine bodyPost_ret (v := Rc.v ⟨3, v, u, 0, f, emp, emp, t⟩) (by simp [results, Tryz.results78, go_sem, Rc.v, emp]) rfl ?_
  exact ⟨rfl, ((Below.refl _ _).alloc (Nat.le_refl _) _).alloc (by simp) _⟩

set_option maxRecDepth 100000 in
set_option maxHeartbeats 1000000 in
theorem recOf_4 (v u f : Int) (w : World) :
    Calls Tryz.prog 78 #[.iface 134 (.agg #[.int .i64 v, .int .i64 u, .int .i64 f])] w fun e w' => e = .returned (Rc.v ⟨4, v, u, 0, f, emp, emp, emp⟩) ∧ Below w.heap.size w w' := by
  have t1 : ∀ wx, (Instr.typeAssert (.iface 134 (.agg #[.int .i64 v, .int .i64 u, .int .i64 f])) 113 128 true).run Tryz.prog wx = .ok (.tuple #[.agg #[.int .i64 0, .int .i64 0, .string ⟨#[]⟩, .string ⟨#[]⟩], .bool false]) wx := fun _ => by kernel_rfl
  have t2 : ∀ wx, (Instr.typeAssert (.iface 134 (.agg #[.int .i64 v, .int .i64 u, .int .i64 f])) 113 130 true).run Tryz.prog wx = .ok (.tuple #[.agg #[.int .i64 0], .bool false]) wx := fun _ => by kernel_rfl
  have t3 : ∀ wx, (Instr.typeAssert (.iface 134 (.agg #[.int .i64 v, .int .i64 u, .int .i64 f])) 113 132 true).run Tryz.prog wx = .ok (.tuple #[.agg #[.int .i64 0, .int .i64 0, .int .i64 0, .string ⟨#[]⟩], .bool false]) wx := fun _ => by kernel_rfl
  have t4 : ∀ wx, (Instr.typeAssert (.iface 134 (.agg #[.int .i64 v, .int .i64 u, .int .i64 f])) 113 134 true).run Tryz.prog wx = .ok (.tuple #[.agg #[.int .i64 v, .int .i64 u, .int .i64 f], .bool true]) wx := fun _ => by kernel_rfl
  go_enter Tryz.func78, Tryz.ntmps78
  go_wp2
  refine bodyPost_ret (v := Rc.v ⟨4, v, u, 0, f, emp, emp, emp⟩) (by simp [results, Tryz.results78, go_sem, Rc.v, emp]) rfl ?_
  exact ⟨rfl, ((Below.refl _ _).alloc (Nat.le_refl _) _).alloc (by simp) _⟩

set_option maxRecDepth 100000 in
set_option maxHeartbeats 1000000 in
theorem recOf_5 (v u : Int) (w : World) :
    Calls Tryz.prog 78 #[.iface 136 (.agg #[.int .i64 v, .int .i64 u])] w fun e w' => e = .returned (Rc.v ⟨5, v, u, 0, 0, emp, emp, emp⟩) ∧ Below w.heap.size w w' := by
  have t1 : ∀ wx, (Instr.typeAssert (.iface 136 (.agg #[.int .i64 v, .int .i64 u])) 113 128 true).run Tryz.prog wx = .ok (.tuple #[.agg #[.int .i64 0, .int .i64 0, .string ⟨#[]⟩, .string ⟨#[]⟩], .bool false]) wx := fun _ => by kernel_rfl
  have t2 : ∀ wx, (Instr.typeAssert (.iface 136 (.agg #[.int .i64 v, .int .i64 u])) 113 130 true).run Tryz.prog wx = .ok (.tuple #[.agg #[.int .i64 0], .bool false]) wx := fun _ => by kernel_rfl
  have t3 : ∀ wx, (Instr.typeAssert (.iface 136 (.agg #[.int .i64 v, .int .i64 u])) 113 132 true).run Tryz.prog wx = .ok (.tuple #[.agg #[.int .i64 0, .int .i64 0, .int .i64 0, .string ⟨#[]⟩], .bool false]) wx := fun _ => by kernel_rfl
  have t4 : ∀ wx, (Instr.typeAssert (.iface 136 (.agg #[.int .i64 v, .int .i64 u])) 113 134 true).run Tryz.prog wx = .ok (.tuple #[.agg #[.int .i64 0, .int .i64 0, .int .i64 0], .bool false]) wx := fun _ => by kernel_rfl
  have t5 : ∀ wx, (Instr.typeAssert (.iface 136 (.agg #[.int .i64 v, .int .i64 u])) 113 136 true).run Tryz.prog wx = .ok (.tuple #[.agg #[.int .i64 v, .int .i64 u], .bool true]) wx := fun _ => by kernel_rfl
  go_enter Tryz.func78, Tryz.ntmps78
  go_wp2
  refine bodyPost_ret (v := Rc.v ⟨5, v, u, 0, 0, emp, emp, emp⟩) (by simp [results, Tryz.results78, go_sem, Rc.v, emp]) rfl ?_
  exact ⟨rfl, ((Below.refl _ _).alloc (Nat.le_refl _) _).alloc (by simp) _⟩

instance decRcEq (a b : Rc) : Decidable (a = b) :=
  decidable_of_iff (a.kind = b.kind ∧ a.valid = b.valid ∧ a.uid = b.uid ∧ a.next = b.next ∧ a.flags = b.flags ∧ a.user = b.user ∧ a.name = b.name ∧ a.text = b.text) (by
    obtain ⟨a0, a1, a2, a3, a4, a5, a6, a7⟩ := a
    obtain ⟨b0, b1, b2, b3, b4, b5, b6, b7⟩ := b
    simp)

theorem rec_fields : Tryz.prog.underlying 47 = some (.struct (Tryz.prog.fieldsOf 47)) := by kernel_rfl

theorem ba_inj (a b : ByteArray) : a.toList = b.toList ↔ a = b := by
  have h := ba_beq a b
  constructor
  · intro e
    rw [beq_iff_eq.2 e] at h
    exact of_decide_eq_true h.symm
  · intro e; rw [e]

set_option maxRecDepth 100000 in
theorem run_rec_equal (a b : Rc) (w : World) : (Op.equalIn 10000 47 a.v b.v).run Tryz.prog w = .ok (decide (a = b)) w := by
  unfold Rc.v
  rw [run_equalIn_agg _ 9999 _ _ _ rec_fields (by kernel_rfl)]
  obtain ⟨a0, a1, a2, a3, a4, a5, a6, a7⟩ := a
  obtain ⟨b0, b1, b2, b3, b4, b5, b6, b7⟩ := b
  simp [go_sem, Op.eqFields, Tryz.underlying47, Program.fieldsOf]
  simp only [ba_inj]
  by_cases h0 : a0 = b0 <;> by_cases h1 : a1 = b1 <;> by_cases h2 : a2 = b2 <;> by_cases h3 : a3 = b3 <;> by_cases h4 : a4 = b4 <;> by_cases h5 : a5 = b5 <;> by_cases h6 : a6 = b6 <;> by_cases h7 : a7 = b7 <;> simp only [h0, h1, h2, h3, h4, h5, h6, h7, if_true, if_false, decide_true, decide_false, Bool.and_true, Bool.and_false]

theorem run_rec_eql (a b : Rc) (w : World) : (binOp .eql 47 a.v b.v).run Tryz.prog w = .ok (.bool (decide (a = b))) w := by
  have h := run_rec_equal a b w
  unfold Rc.v at h ⊢
  rw [run_eql_struct, h]; rfl
theorem run_rec_neq (a b : Rc) (w : World) : (binOp .neq 47 a.v b.v).run Tryz.prog w = .ok (.bool (!decide (a = b))) w := by
  have h := run_rec_equal a b w
  unfold Rc.v at h ⊢
  rw [run_neq_struct, h]; rfl

end Go.Proofs.YtahebgceoidebaaGreat
