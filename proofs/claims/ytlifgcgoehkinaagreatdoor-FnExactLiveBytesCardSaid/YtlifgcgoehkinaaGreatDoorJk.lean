/- Texts of our own, joined. -/
import Derived.Test.YtlifgcgoehkinaaGreatDoorJj
import Derived.Test.YtlifgcgoehkinaaGreatDoorJi
/- NeededAll and Needed of the model. -/
namespace Go.Proofs.YtlifgcgoehkinaaGreatDoor
open Go.RowKit

noncomputable def needL (l : List Itm) : List Bool := needP l (decide (itemsOk l)) l.length
theorem needL_len (l : List Itm) : (needL l).length = l.length := needP_len l _ _ (Nat.le_refl _)

set_option maxRecDepth 100000 in
set_option maxHeartbeats 4000000 in
theorem specNeededAll_any (l : List Itm) (v : Value) (w : World) (h : Rows' itE w v l) (hl : l.length ≤ 1048576) (hz : ∀ x ∈ l, x.2.user.size ≤ 1048576 ∧ x.2.name.size ≤ 1048576 ∧ x.2.text.size ≤ 1048576) :
    Calls Tryz.prog 19 #[v] w fun e w' => ∃ v', e = .returned v' ∧ RBuf boE w.heap.size w w' v' (needL l) := by
  have HIO := Lib.hid (fun x (hx : Below w.heap.size w x) => specItemsOk_any l v x (h.later hx) (by omega) (fun y hy => by have := hz y hy; omega))
  have HND : Hid (itemsOk l → ∀ (k : Nat) (y : Itm), l[k]? = some y → ∀ x, Below w.heap.size w x → Calls Tryz.prog 35 #[v, .int .i64 (k : Int)] x fun e w' => e = .returned (.bool (needB l k y)) ∧ Below x.heap.size x w') := fun hok k y hk x hx => specNeed_any l v k y x (h.later hx) hl hk ((hok.1 y (List.mem_of_getElem? hk)).2.1)
  obtain ⟨ad, cap, rfl, _⟩ := h.items
  clear h hz
  have HE : Hid (needL l = needP l (decide (itemsOk l)) l.length) := by show _ = _; rfl
  have HOK : Hid (decide (itemsOk l) = true → itemsOk l) := fun h => of_decide_eq_true h
  generalize needL l = R at HE ⊢
  generalize decide (itemsOk l) = ok at HIO HE HOK
  obtain ⟨n, hn⟩ : ∃ n, l.length = n := ⟨_, rfl⟩
  rw [hn] at hl HE HIO HND
  rw [hn]
  have HN := Lib.hid hn
  clear hn
  go_enter Tryz.func19, Tryz.ntmps19
  go_wp2_with fail
  refine (HIO.out _ (Below.refl _ _)).mono ?_
  rintro e w1 ⟨rfl, k1⟩
  clear HIO
  have I0 := (RBuf.fresh boE w1).down (k1.trans ((belNew w1 (.cells #[] boE.ty)).mono k1.size)) k1.size
  go_wp2
  go_loopw [4, 5] (fun v iv wr => ∃ i : Nat, i ≤ n ∧ iv = .int .i64 (i : Int) ∧ RBuf boE w.heap.size w wr v (needP l ok i)) (fun _ iv _ => n - (intOf iv).toNat)
  case atStart => exact ⟨0, by omega, rfl, I0⟩
  case round =>
    clear I0 k1
    obtain ⟨i, hi, rfl, I⟩ := hrel
    by_cases hlt : i < n
    · obtain ⟨x, hgx⟩ : ∃ x, l[i]? = some x := ⟨_, List.getElem?_eq_getElem (by rw [HN.out]; exact hlt)⟩
      have HST := Lib.hid (needP_step (ok := ok) hgx)
      have hlu := needP_len l ok i (by rw [HN.out]; exact hi)
      have hl2 : (needP l ok i).length ≤ 1048576 := by omega
      clear hlu
      generalize needP l ok i = us at HST I hl2
      have hi0 : (0 : Int) ≤ (i : Int) := by omega
      have hi1 : (i : Int) < (n : Int) := by omega
      cases ok with
      | false =>
        have HR6 := Lib.hid (I.alloc (.cells #[.bool false] 4))
        have HL6 := Lib.hid (RBuf.lit1 boE wr false)
        clear hgx I HND
        go_wp2_with (at_builtin; refine wpList_append_rows rfl _ _ boE rfl w.heap.size _ _ rfl HR6.out.here wr.heap.size _ [false] rfl HL6.out (by show _ * 2 ≤ _; simp only [List.length_cons, List.length_nil]; omega) ?_; intro v6 w6 r6 g6 at6)
        exact ⟨⟨i + 1, by omega, by simp, by rw [HST.out]; exact ⟨r6.own, HR6.out.bel.grown g6 HR6.out.le (fun k hk => (HR6.out.own.lt k hk).1), r6.le⟩⟩, by first | omega | (simp [intOf]; omega)⟩
      | true =>
        have HNK := Lib.hid (HND.out (HOK.out rfl) i x hgx _ I.bel)
        generalize needB l i x = D at HST HNK
        clear hgx
        go_wp2_with fail
        refine HNK.out.mono ?_
        rintro e w5 ⟨rfl, k5⟩
        have HR6 := Lib.hid ((I.later k5).alloc (.cells #[.bool D] 4))
        have HL6 := Lib.hid (RBuf.lit1 boE w5 D)
        clear I k5 HNK
        go_wp2_with (at_builtin; refine wpList_append_rows rfl _ _ boE rfl w.heap.size _ _ rfl HR6.out.here w5.heap.size _ [D] rfl HL6.out (by show _ * 2 ≤ _; simp only [List.length_cons, List.length_nil]; omega) ?_; intro v6 w6 r6 g6 at6)
        exact ⟨⟨i + 1, by omega, by simp, by rw [HST.out, Bool.true_and]; exact ⟨r6.own, HR6.out.bel.grown g6 HR6.out.le (fun k hk => (HR6.out.own.lt k hk).1), r6.le⟩⟩, by first | omega | (simp [intOf]; omega)⟩
    · go_wp2
      go_ret
      refine ⟨_, rfl, ?_⟩
      have hil : i = n := by omega
      rw [HE.out, ← hil]
      exact I


end Go.Proofs.YtlifgcgoehkinaaGreatDoor
