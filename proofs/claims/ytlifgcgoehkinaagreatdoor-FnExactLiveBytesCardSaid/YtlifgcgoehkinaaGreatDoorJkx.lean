/- Texts of our own, joined. -/
import Derived.Test.YtlifgcgoehkinaaGreatDoorJgx
import Derived.Test.YtlifgcgoehkinaaGreatDoorJk
import Derived.Test.YtlifgcgoehkinaaGreatDoorJhx
import Derived.Test.YtlifgcgoehkinaaGreatDoorJjx
import Derived.Test.YtlifgcgoehkinaaGreatDoorJc
/- NeededAll of the program. -/
namespace Go.Proofs.YtlifgcgoehkinaaGreatDoor
open Go.RowKit

theorem KS.trans {a b c : World} {g : Nat} (h1 : KS a g none b) (h2 : KS b g none c) : KS a g none c :=
  ⟨Nat.le_trans h1.size h2.size, fun q hq n1 n2 => (h2.same q (Nat.lt_of_lt_of_le hq h1.size) n1 n2).trans (h1.same q hq n1 n2)⟩
theorem Rows'.ks {α : Type} {E : Enc α} {w w5 x : World} {v : Value} {l : List α} (h : Rows' E w v l) (hb : Below w.heap.size w w5) (hk : KS w5 w.heap.size none x) : Rows' E x v l := by
  rcases h with h | ⟨g, off, cap, hv, hc, hgl, hcl⟩
  · exact .inl h
  · refine .inr ⟨g, off, cap, hv, hc, Nat.lt_of_lt_of_le hgl (Nat.le_trans hb.size hk.size), fun j y hj k u hu => ?_⟩
    have h1 := (hb.cell (p := ⟨g, off + j * E.sz + k, none⟩) hgl).trans (hcl j y hj k u hu)
    exact hk.cell h1 (by omega) (by simp)

def needQ (l : List Itm) (i : Nat) : List Bool := needP l true i ++ List.replicate (l.length - i) false
theorem needQ_len {l : List Itm} {i : Nat} (h : i ≤ l.length) : (needQ l i).length = l.length := by
  unfold needQ
  rw [List.length_append, needP_len l true i h, List.length_replicate]
  omega
theorem needQ_at {l : List Itm} {i : Nat} (h : i < l.length) : (needQ l i)[i]? = some false := by
  unfold needQ
  rw [List.getElem?_append_right (by rw [needP_len l true i (by omega)]; omega), needP_len l true i (by omega), Nat.sub_self, List.getElem?_replicate, if_pos (by omega)]
theorem needQ_set {l : List Itm} {i : Nat} {x : Itm} (hx : l[i]? = some x) : (needQ l i).set i (needB l i x) = needQ l (i + 1) := by
  have h := (List.getElem?_eq_some_iff.1 hx).1
  unfold needQ
  rw [List.set_append_right _ _ (by rw [needP_len l true i (by omega)]; omega), needP_len l true i (by omega), Nat.sub_self, needP_step hx, List.append_assoc]
  congr 1
  rw [show l.length - i = (l.length - (i + 1)) + 1 by omega, List.replicate_succ, List.set_cons_zero, Bool.true_and]
  rfl
theorem needP_false {l : List Itm} : ∀ i, i ≤ l.length → needP l false i = List.replicate i false
  | 0, _ => rfl
  | i + 1, h => by
    rw [needP_step (List.getElem?_eq_getElem (show i < l.length by omega)), needP_false i (by omega), List.replicate_succ']
    rfl

set_option maxRecDepth 100000 in
set_option maxHeartbeats 16000000 in
theorem implNeededAll_any (l : List Itm) (v : Value) (w : World) (h : Rows' itE w v l) (hl : l.length ≤ 1048576) :
    Calls Tryz.prog 42 #[v] w fun e w' => ∃ v', e = .returned v' ∧ RBuf boE w.heap.size w w' v' (needL l) := by
  have HL : Hid (∀ x, Below w.heap.size w x → Rows' itE x v l) := fun x hx => h.later hx
  have HLK : Hid (∀ x5 x, Below w.heap.size w x5 → KS x5 w.heap.size none x → Rows' itE x v l) := fun x5 x h1 h2 => h.ks h1 h2
  obtain ⟨ad, cap, rfl, hrow⟩ := h.items
  have HR := Lib.hid hrow
  clear h hrow
  have HIO := Lib.hid (fun x (hx : Below w.heap.size w x) => implItemsOk_any l _ x (HL.out x hx) (by omega))
  obtain ⟨n, hn⟩ : ∃ n, l.length = n := ⟨_, rfl⟩
  have HN := Lib.hid hn
  rw [hn] at hl HL HLK HIO
  rw [hn]
  clear hn
  go_enter Tryz.func42, Tryz.ntmps42
  go_wp2_with (at_make; refine wpList_make_rows rfl _ _ boE rfl .i64 .i64 _ _ n rfl rfl rfl rfl (by show 2 * n ≤ _; omega) ?_; intro w1 hr1 hs1)
  have k1 := hr1.bel
  refine (HIO.out _ k1).mono ?_
  rintro e w2 ⟨rfl, k2⟩
  have b2 := k1.trans (k2.mono k1.size)
  have I2 := hr1.later k2
  clear hr1 k1 k2 HIO
  by_cases hok : itemsOk l
  rotate_left
  · have HE : Hid (needL l = List.replicate n false) := by
      show _ = _
      unfold needL
      rw [decide_eq_false hok, ← HN.out]
      exact needP_false _ (Nat.le_refl _)
    rw [decide_eq_false hok]
    clear hok
    go_wp2
    go_ret
    refine ⟨_, rfl, ?_⟩
    rw [HE.out]
    exact I2
  · rw [decide_eq_true hok]
    have HOK := Lib.hid hok
    clear hok
    go_wp2_with fail
    refine (tellerPlaces_any l _ _ (HL.out _ b2) HOK.out).mono ?_
    rintro e w3 ⟨gM, rfl, hgM, MM, k3⟩
    have b3 := b2.trans (k3.mono b2.size)
    obtain ⟨gB, hgB⟩ : ∃ gB, w.heap.size = gB := ⟨_, rfl⟩
    have hBl : gB < w2.heap.size := by
      have h1 := (I2.own.lt w.heap.size rfl).2
      omega
    have hMB : gM ≠ gB := by omega
    obtain ⟨f, hf⟩ : ∃ f, telP l l.length = f := ⟨_, rfl⟩
    have HF := Lib.hid hf
    rw [hf] at MM
    rw [HN.out] at MM
    have I3 := I2.later k3
    clear hf I2 b2
    go_wp2_with fail
    refine (wantedByKind_any l _ gM n f _ (HL.out _ b3) MM).mono ?_
    rintro e w4 ⟨g2, g3, g5, g6, g7, gr, rfl, W4, C4, ⟨z2, z3, z5, z6, z7, zr⟩, k4⟩
    have b4 := b3.trans (k4.mono b3.size)
    have I4 := I3.later k4
    have s3 := k3.size
    rw [hgB] at I4
    rw [hgB] at HLK
    have H4 : Hid (∀ x, KS w4 gB none x → Wn x gM n f (.slice ad n cap) l g2 g3 g5 g6 g7 ∧ (x.cell? ⟨gr, 1, none⟩ = some (.func (.func 85) #[] #[.pointer (some ⟨g5, 0, none⟩)]) ∧ x.cell? ⟨gr, 2, none⟩ = some (.func (.func 88) #[] #[.pointer (some ⟨g2, 0, none⟩)]) ∧ x.cell? ⟨gr, 3, none⟩ = some (.func (.func 87) #[] #[.pointer (some ⟨g7, 0, none⟩), .pointer (some ⟨g5, 0, none⟩)]) ∧ x.cell? ⟨gr, 4, none⟩ = some (.func (.func 87) #[] #[.pointer (some ⟨g7, 0, none⟩), .pointer (some ⟨g5, 0, none⟩)]) ∧ x.cell? ⟨gr, 5, none⟩ = some (.func (.func 86) #[] #[.pointer (some ⟨g6, 0, none⟩), .pointer (some ⟨g5, 0, none⟩)]))) := fun x hx => by
      have c : ∀ {g q : Nat} {u : Value}, w3.heap.size ≤ g → w4.cell? ⟨g, q, none⟩ = some u → x.cell? ⟨g, q, none⟩ = some u := fun {g q u} hg hc => hx.cell hc (by omega) (by simp)
      exact ⟨⟨W4.map.same (hx.same gM W4.map.lt hMB (by simp)), c z2 W4.c2, c z3 W4.c3, c z5 W4.c5, c z6 W4.c6, c z7 W4.c7, HLK.out _ _ (hgB ▸ b4) hx⟩, c zr C4.1, c zr C4.2.1, c zr C4.2.2.1, c zr C4.2.2.2.1, c zr C4.2.2.2.2⟩
    clear W4 C4 z2 z3 z5 z6 z7 zr I3 MM k3 k4 b3 s3 HLK HL
    have HGB := Lib.hid hgB
    have Q0 : Hid (List.replicate n false = needQ l 0) := by
      show _ = _
      unfold needQ
      rw [HN.out]; rfl
    change RBuf boE gB w w4 (.slice (some ⟨gB, 0, none⟩) n n) (List.replicate n false) at I4
    rw [Q0.out] at I4
    try rw [hgB]
    clear hgB Q0 hBl hMB b4 hgM
    go_wp2
    go_loopw [22] (fun iv wr => ∃ i : Nat, i ≤ n ∧ iv = .int .i64 (i : Int) ∧ RBuf boE gB w wr (.slice (some ⟨gB, 0, none⟩) n n) (needQ l i) ∧ KS w4 gB none wr) (fun iv _ => n - (intOf iv).toNat)
    case atStart => exact ⟨0, by omega, rfl, I4, ⟨Nat.le_refl _, fun _ _ _ _ => rfl⟩⟩
    case round =>
      clear I4
      obtain ⟨i, hi, rfl, I, ks⟩ := hrel
      by_cases hlt : i < n
      · obtain ⟨x, hgx⟩ : ∃ x, l[i]? = some x := ⟨_, List.getElem?_eq_getElem (by rw [HN.out]; exact hlt)⟩
        obtain ⟨gp, op, rfl, p0, p1, p2, p3, p4, p5, p6, p7, p8⟩ := HR.out _ (HGB.out ▸ I.bel) i _ hgx
        have hxo := (HOK.out.1 x (List.mem_of_getElem? hgx)).2
        have hval := hxo.2.1
        have huid : 0 ≤ x.2.uid ∧ x.2.uid ≤ 9999 := by
          have h4 := hxo.2.2.2.1
          by_cases c : 3 ≤ x.2.kind
          · rw [if_pos c] at h4; omega
          · rw [if_neg c] at h4; omega
        have hknd := hxo.1
        have HKO : Hid (sjK.ok (sjOf x)) := sj_ok (by omega) (by omega) (by omega)
        have HNB := Lib.hid (needB_iff HOK.out hgx)
        have HQS := Lib.hid (needQ_set hgx)
        obtain ⟨j, hj⟩ : ∃ j, f (sjOf x) = some j := by
          rcases telI l l.length (Nat.le_refl _) (sjOf x) with ⟨h1, h2⟩ | ⟨j, z, h1, _⟩
          · exact absurd rfl (h2 i x (by rw [HN.out]; exact hlt) hgx)
          · exact ⟨j, by rw [← HF.out]; exact h1⟩
        rw [HF.out, hj] at HNB
        have hql := needQ_len (l := l) (i := i) (by rw [HN.out]; exact hi)
        have hqa := needQ_at (l := l) (i := i) (by rw [HN.out]; exact hlt)
        rw [HN.out] at hql
        have HSO := Lib.hid (fun X => subjectOf_any x.2 X)
        have HWA : Hid (wantO l f x = if x.2.kind = 1 then boxO f x.2.valid else if x.2.kind = 2 then l.any (othB x.2.kind x.2.valid) else if x.2.kind = 5 then addO f x.2.valid x.2.uid else mailO f x.2.valid x.2.uid) := by show _ = _; rfl
        generalize hAN : needB l i x = AN at HNB HQS
        clear hAN
        have hWx : ∀ X : World, Wn X gM n f (.slice (some ⟨gp, op, none⟩) n cap) l g2 g3 g5 g6 g7 → (Calls Tryz.prog 85 #[x.2.v, .pointer (some ⟨g5, 0, none⟩)] X fun e w' => e = .returned (.bool (boxO f x.2.valid)) ∧ Below X.heap.size X w') ∧ (Calls Tryz.prog 86 #[x.2.v, .pointer (some ⟨g6, 0, none⟩), .pointer (some ⟨g5, 0, none⟩)] X fun e w' => e = .returned (.bool (addO f x.2.valid x.2.uid)) ∧ Below X.heap.size X w') ∧ (Calls Tryz.prog 87 #[x.2.v, .pointer (some ⟨g7, 0, none⟩), .pointer (some ⟨g5, 0, none⟩)] X fun e w' => e = .returned (.bool (mailO f x.2.valid x.2.uid)) ∧ Below X.heap.size X w') ∧ (Calls Tryz.prog 88 #[x.2.v, .pointer (some ⟨g2, 0, none⟩)] X fun e w' => e = .returned (.bool (l.any (othB x.2.kind x.2.valid))) ∧ Below X.heap.size X w') := fun X hX => ⟨boxThere_any x.2 X hX hval, addedThere_any x.2 X hX hval huid, mailThere_any x.2 X hX hval huid, othersThere_any x.2 X hX (by rw [HN.out]; exact hl)⟩
        have HWX := Lib.hid hWx
        clear hgx hxo hWx hval huid
        obtain ⟨sq, K, V, U, N, FL, US, NM, TX⟩ := x
        unfold sjOf at HKO hj
        unfold Rc.v at HSO HWX
        simp only at p0 p1 p2 p3 p4 p5 p6 p7 p8 HKO hj HSO HWA HWX hknd
        have hi0 : (0 : Int) ≤ (i : Int) := by omega
        have hi1 : (i : Int) < (n : Int) := by omega
        have X5 := Box.new wr #[.int .i64 sq, .int .i64 K, .int .i64 V, .int .i64 U, .int .i64 N, .int .i64 FL, .string US, .string NM, .string TX] 68
        have k5 := belNew wr (.cells #[.int .i64 sq, .int .i64 K, .int .i64 V, .int .i64 U, .int .i64 N, .int .i64 FL, .string US, .string NM, .string TX] 68)
        have I5 := I.later k5
        have ks5 := ks.later k5
        have hgi : gB < wr.heap.size := (I.own.lt gB rfl).2
        clear k5 I ks
        go_upto_region 9 with fail
        clear p0 p1 p2 p3 p4 p5 p6 p7 p8
        generalize wr.alloc (.cells #[.int .i64 sq, .int .i64 K, .int .i64 V, .int .i64 U, .int .i64 N, .int .i64 FL, .string US, .string NM, .string TX] 68) = w5 at X5 I5 ks5 ⊢
        generalize wr.heap.size = gi at X5 hgi ⊢
        have H5 : Hid (∀ x, KS w5 gB none x → (x.cell? ⟨gi, 0, none⟩ = some (.int .i64 sq) ∧ x.cell? ⟨gi, 1, none⟩ = some (.int .i64 K) ∧ x.cell? ⟨gi, 2, none⟩ = some (.int .i64 V) ∧ x.cell? ⟨gi, 3, none⟩ = some (.int .i64 U) ∧ x.cell? ⟨gi, 4, none⟩ = some (.int .i64 N) ∧ x.cell? ⟨gi, 5, none⟩ = some (.int .i64 FL) ∧ x.cell? ⟨gi, 6, none⟩ = some (.string US) ∧ x.cell? ⟨gi, 7, none⟩ = some (.string NM) ∧ x.cell? ⟨gi, 8, none⟩ = some (.string TX)) ∧ (Instr.lookup 113 (.map (some gM)) (.agg #[.int .i64 K, .int .i64 V, .int .i64 U]) false).run Tryz.prog x = .ok (.int .i64 (j : Int)) x ∧ (x.cell? ⟨gr, 1, none⟩ = some (.func (.func 85) #[] #[.pointer (some ⟨g5, 0, none⟩)]) ∧ x.cell? ⟨gr, 2, none⟩ = some (.func (.func 88) #[] #[.pointer (some ⟨g2, 0, none⟩)]) ∧ x.cell? ⟨gr, 3, none⟩ = some (.func (.func 87) #[] #[.pointer (some ⟨g7, 0, none⟩), .pointer (some ⟨g5, 0, none⟩)]) ∧ x.cell? ⟨gr, 4, none⟩ = some (.func (.func 87) #[] #[.pointer (some ⟨g7, 0, none⟩), .pointer (some ⟨g5, 0, none⟩)]) ∧ x.cell? ⟨gr, 5, none⟩ = some (.func (.func 86) #[] #[.pointer (some ⟨g6, 0, none⟩), .pointer (some ⟨g5, 0, none⟩)])) ∧ Wn x gM n f (.slice (some ⟨gp, op, none⟩) n cap) l g2 g3 g5 g6 g7) := fun x hx => by
          obtain ⟨W, C⟩ := H4.out x (ks5.trans hx)
          obtain ⟨a0, a1, a2, a3, a4, a5, a6, a7, a8, _⟩ := (X5.ks hx (by omega)).nine
          exact ⟨⟨a0, a1, a2, a3, a4, a5, a6, a7, a8⟩, W.map.look_there (t := 113) Tryz.underlying113 (zero_intN x) HKO.out hj false, C, W⟩
        clear X5
        have hcb : ∀ X : World, RBuf boE gB w X (.slice (some ⟨gB, 0, none⟩) n n) (needQ l i) → (X.cell? ⟨gB, i, none⟩ = some (.bool false) ∧ X.frozen? ⟨gB, i, none⟩ = false ∧ ∀ b : Bool, RBuf boE gB w (X.setCell ⟨gB, i, none⟩ (.bool b)) (.slice (some ⟨gB, 0, none⟩) n n) ((needQ l i).set i b)) := fun X hX => by
          rw [← hql] at hX
          have h1 := hX.cell rfl i _ hqa 0 _ rfl
          rw [show boE.sz = 1 from rfl, Nat.mul_one, Nat.add_zero] at h1
          refine ⟨h1, hX.loose i, fun b => ?_⟩
          have h2 := hX.stored i _ b hqa 0 (by decide) (.bool b) rfl
          rw [show boE.sz = 1 from rfl, Nat.mul_one, Nat.add_zero, hql] at h2
          exact h2
        have HCB := Lib.hid hcb
        clear hcb hql hqa
        by_cases hji : j = i
        rotate_left
        · have hb : ((j : Int) == (i : Int)) = false := beq_eq_false_iff_ne.2 (fun e => hji (by omega))
          have HE : Hid (AN = false) := by show _ = _; rw [HNB.out, decide_eq_false (fun e => hji (Option.some.inj e))]; rfl
          clear HNB HWA hji
          refine wp_region_held_drew (S := fun x => KS w5 gB none x) (by kernel_rfl) (KS.drew w5 gB none) (fun hHeld => ?_)
          refine takeL (i := 0) (v := .slice (some ⟨gB, 0, none⟩) n n) rfl (by kernel_rfl) (by kernel_rfl) (by kernel_rfl) (fun _ _ _ h => h) (Or.inl ⟨by rfl, ?_⟩) (by assumption) ?_
          · intro x hSx; go_simp
          try simp only [Act.put, List.setIfInBounds_toArray, List.set_cons_zero, List.set_cons_succ]
          refine takeL (i := 1) (v := .int .i64 (i : Int)) rfl (by kernel_rfl) (by kernel_rfl) (by kernel_rfl) (fun _ _ _ h => h) (Or.inl ⟨by rfl, ?_⟩) (by assumption) ?_
          · intro x hSx; go_simp
          try simp only [Act.put, List.setIfInBounds_toArray, List.set_cons_zero, List.set_cons_succ]
          refine takeL (i := 2) (v := .map (some gM)) rfl (by kernel_rfl) (by kernel_rfl) (by kernel_rfl) (fun _ _ _ h => h) (Or.inl ⟨by rfl, ?_⟩) (by assumption) ?_
          · intro x hSx; go_simp
          try simp only [Act.put, List.setIfInBounds_toArray, List.set_cons_zero, List.set_cons_succ]
          refine takeL (i := 3) (v := .pointer (some ⟨gi, 1, none⟩)) rfl (by kernel_rfl) (by kernel_rfl) (by kernel_rfl) (fun _ _ _ h => h) (Or.inl ⟨by rfl, ?_⟩) (by assumption) ?_
          · intro x hSx; go_simp
          try simp only [Act.put, List.setIfInBounds_toArray, List.set_cons_zero, List.set_cons_succ]
          refine takeL (i := 4) (v := .agg #[.int .i64 K, .int .i64 V, .int .i64 U, .int .i64 N, .int .i64 FL, .string US, .string NM, .string TX]) rfl (by kernel_rfl) (by kernel_rfl) (by kernel_rfl) (fun _ _ _ h => h) (Or.inl ⟨by rfl, ?_⟩) (by assumption) ?_
          · intro x hSx; obtain ⟨d0, d1, d2, d3, d4, d5, d6, d7, d8⟩ := (H5.out x hSx).1; go_simp
          try simp only [Act.put, List.setIfInBounds_toArray, List.set_cons_zero, List.set_cons_succ]
          refine takeL (i := 7) (v := .int .i64 (i : Int)) rfl (by kernel_rfl) (by kernel_rfl) (by kernel_rfl) (fun _ _ _ h => h) (Or.inl ⟨by rfl, ?_⟩) (by assumption) ?_
          · intro x hSx; go_simp
          try simp only [Act.put, List.setIfInBounds_toArray, List.set_cons_zero, List.set_cons_succ]
          have I6 : RBuf boE gB w w5.drew (.slice (some ⟨gB, 0, none⟩) n n) (needQ l i) := I5.later ((Below.refl _ _).drew)
          generalize w5.drew = X0 at hHeld I6 ⊢
          refine wpAnyH_ready (rs := [5]) (by kernel_rfl) (by simp) ?_
          refine readyOne rfl (fun K' hK => ?_)
          go_simp
          refine (HSO.out _).mono ?_
          rintro e wS ⟨rfl, kS⟩
          go_wp2_with fail
          refine hK.out _ _ (hHeld.later kS) (fun hS2 => ?_)
          clear hK K' hHeld
          have hHeld := hS2
          clear hS2
          try simp only [Act.put, List.setIfInBounds_toArray, List.set_cons_zero, List.set_cons_succ]
          replace I6 := I6.later kS
          clear kS
          refine takeL (i := 6) (v := .int .i64 (j : Int)) rfl (by kernel_rfl) (by kernel_rfl) (by kernel_rfl) (fun _ _ _ h => h) (Or.inl ⟨by rfl, ?_⟩) (by assumption) ?_
          · intro x hSx; have hlk := (H5.out x hSx).2.1; go_simp
          try simp only [Act.put, List.setIfInBounds_toArray, List.set_cons_zero, List.set_cons_succ]
          refine takeL (i := 8) (v := .bool false) rfl (by kernel_rfl) (by kernel_rfl) (by kernel_rfl) (fun _ _ _ h => h) (Or.inl ⟨by rfl, ?_⟩) (by assumption) ?_
          · intro x hSx; go_simp
          try simp only [Act.put, List.setIfInBounds_toArray, List.set_cons_zero, List.set_cons_succ]
          refine takeL (i := 9) (v := .bool false) rfl (by kernel_rfl) (by kernel_rfl) (by kernel_rfl) (fun _ _ _ h => h) (Or.inl ⟨by rfl, ?_⟩) (by assumption) ?_
          · intro x hSx; go_simp
          try simp only [Act.put, List.setIfInBounds_toArray, List.set_cons_zero, List.set_cons_succ]
          refine takeL (i := 10) (v := undef) rfl (by kernel_rfl) (by kernel_rfl) (by kernel_rfl) (fun _ _ _ h => h) (Or.inr ⟨by rfl, rfl⟩) (by assumption) ?_
          try simp only [Act.put, List.setIfInBounds_toArray, List.set_cons_zero, List.set_cons_succ]
          refine takeL (i := 11) (v := undef) rfl (by kernel_rfl) (by kernel_rfl) (by kernel_rfl) (fun _ _ _ h => h) (Or.inr ⟨by rfl, rfl⟩) (by assumption) ?_
          try simp only [Act.put, List.setIfInBounds_toArray, List.set_cons_zero, List.set_cons_succ]
          refine takeL (i := 12) (v := undef) rfl (by kernel_rfl) (by kernel_rfl) (by kernel_rfl) (fun _ _ _ h => h) (Or.inr ⟨by rfl, rfl⟩) (by assumption) ?_
          try simp only [Act.put, List.setIfInBounds_toArray, List.set_cons_zero, List.set_cons_succ]
          refine takeL (i := 13) (v := undef) rfl (by kernel_rfl) (by kernel_rfl) (by kernel_rfl) (fun _ _ _ h => h) (Or.inr ⟨by rfl, rfl⟩) (by assumption) ?_
          try simp only [Act.put, List.setIfInBounds_toArray, List.set_cons_zero, List.set_cons_succ]
          refine takeL (i := 14) (v := undef) rfl (by kernel_rfl) (by kernel_rfl) (by kernel_rfl) (fun _ _ _ h => h) (Or.inr ⟨by rfl, rfl⟩) (by assumption) ?_
          try simp only [Act.put, List.setIfInBounds_toArray, List.set_cons_zero, List.set_cons_succ]
          refine takeL (i := 15) (v := undef) rfl (by kernel_rfl) (by kernel_rfl) (by kernel_rfl) (fun _ _ _ h => h) (Or.inr ⟨by rfl, rfl⟩) (by assumption) ?_
          try simp only [Act.put, List.setIfInBounds_toArray, List.set_cons_zero, List.set_cons_succ]
          refine takeL (i := 16) (v := undef) rfl (by kernel_rfl) (by kernel_rfl) (by kernel_rfl) (fun _ _ _ h => h) (Or.inr ⟨by rfl, rfl⟩) (by assumption) ?_
          try simp only [Act.put, List.setIfInBounds_toArray, List.set_cons_zero, List.set_cons_succ]
          refine takeL (i := 17) (v := undef) rfl (by kernel_rfl) (by kernel_rfl) (by kernel_rfl) (fun _ _ _ h => h) (Or.inr ⟨by rfl, rfl⟩) (by assumption) ?_
          try simp only [Act.put, List.setIfInBounds_toArray, List.set_cons_zero, List.set_cons_succ]
          refine takeL (i := 18) (v := undef) rfl (by kernel_rfl) (by kernel_rfl) (by kernel_rfl) (fun _ _ _ h => h) (Or.inr ⟨by rfl, rfl⟩) (by assumption) ?_
          try simp only [Act.put, List.setIfInBounds_toArray, List.set_cons_zero, List.set_cons_succ]
          refine takeL (i := 19) (v := .bool false) rfl (by kernel_rfl) (by kernel_rfl) (by kernel_rfl) (fun _ _ _ h => h) (Or.inl ⟨by rfl, ?_⟩) (by assumption) ?_
          · intro x hSx; go_simp
          try simp only [Act.put, List.setIfInBounds_toArray, List.set_cons_zero, List.set_cons_succ]
          refine takeL (i := 20) (v := .pointer (some ⟨gB, i, none⟩)) rfl (by kernel_rfl) (by kernel_rfl) (by kernel_rfl) (fun _ _ _ h => h) (Or.inl ⟨by rfl, ?_⟩) (by assumption) ?_
          · intro x hSx; go_simp
          try simp only [Act.put, List.setIfInBounds_toArray, List.set_cons_zero, List.set_cons_succ]
          obtain ⟨cB, lB, hst⟩ := HCB.out _ I6
          have hst2 := hst (false)
          refine wpAnyH_ready (rs := [21]) (by kernel_rfl) (by simp) ?_
          refine readyOne rfl (fun K' hK => ?_)
          go_simp
          refine hK.out _ _ (hHeld.put i (.bool (false))) (fun hS2 => ?_)
          clear hK K' cB lB
          try simp only [Act.put, List.setIfInBounds_toArray, List.set_cons_zero, List.set_cons_succ]
          refine wpAnyH_done (by kernel_rfl) ?_ _
          rw [HE.out] at HQS
          rw [HQS.out] at hst2
          have HST := Lib.hid hst2
          have HKS := Lib.hid (ks5.trans hS2)
          clear hst2 hst hS2 hHeld I6
          go_wp2
          exact ⟨⟨i + 1, by omega, by simp, HST.out, HKS.out⟩, by first | omega | (simp [intOf]; omega)⟩
        · have hji2 := hji.symm
          subst hji2
          have HE : Hid (AN = wantO l f (sq, ⟨K, V, U, N, FL, US, NM, TX⟩)) := by show _ = _; rw [HNB.out, decide_eq_true rfl, Bool.true_and]
          clear HNB hji
          rcases (show K = 1 ∨ K = 2 ∨ K = 3 ∨ K = 4 ∨ K = 5 by omega) with rfl | rfl | rfl | rfl | rfl
          · rw [HWA.out, if_pos rfl] at HE
            clear HWA
            generalize boxO f V = WB at HE HWX
            refine wp_region_held_drew (S := fun x => KS w5 gB none x) (by kernel_rfl) (KS.drew w5 gB none) (fun hHeld => ?_)
            refine takeL (i := 0) (v := .slice (some ⟨gB, 0, none⟩) n n) rfl (by kernel_rfl) (by kernel_rfl) (by kernel_rfl) (fun _ _ _ h => h) (Or.inl ⟨by rfl, ?_⟩) (by assumption) ?_
            · intro x hSx; go_simp
            try simp only [Act.put, List.setIfInBounds_toArray, List.set_cons_zero, List.set_cons_succ]
            refine takeL (i := 1) (v := .int .i64 (i : Int)) rfl (by kernel_rfl) (by kernel_rfl) (by kernel_rfl) (fun _ _ _ h => h) (Or.inl ⟨by rfl, ?_⟩) (by assumption) ?_
            · intro x hSx; go_simp
            try simp only [Act.put, List.setIfInBounds_toArray, List.set_cons_zero, List.set_cons_succ]
            refine takeL (i := 2) (v := .map (some gM)) rfl (by kernel_rfl) (by kernel_rfl) (by kernel_rfl) (fun _ _ _ h => h) (Or.inl ⟨by rfl, ?_⟩) (by assumption) ?_
            · intro x hSx; go_simp
            try simp only [Act.put, List.setIfInBounds_toArray, List.set_cons_zero, List.set_cons_succ]
            refine takeL (i := 3) (v := .pointer (some ⟨gi, 1, none⟩)) rfl (by kernel_rfl) (by kernel_rfl) (by kernel_rfl) (fun _ _ _ h => h) (Or.inl ⟨by rfl, ?_⟩) (by assumption) ?_
            · intro x hSx; go_simp
            try simp only [Act.put, List.setIfInBounds_toArray, List.set_cons_zero, List.set_cons_succ]
            refine takeL (i := 4) (v := .agg #[.int .i64 1, .int .i64 V, .int .i64 U, .int .i64 N, .int .i64 FL, .string US, .string NM, .string TX]) rfl (by kernel_rfl) (by kernel_rfl) (by kernel_rfl) (fun _ _ _ h => h) (Or.inl ⟨by rfl, ?_⟩) (by assumption) ?_
            · intro x hSx; obtain ⟨d0, d1, d2, d3, d4, d5, d6, d7, d8⟩ := (H5.out x hSx).1; go_simp
            try simp only [Act.put, List.setIfInBounds_toArray, List.set_cons_zero, List.set_cons_succ]
            refine takeL (i := 7) (v := .int .i64 (i : Int)) rfl (by kernel_rfl) (by kernel_rfl) (by kernel_rfl) (fun _ _ _ h => h) (Or.inl ⟨by rfl, ?_⟩) (by assumption) ?_
            · intro x hSx; go_simp
            try simp only [Act.put, List.setIfInBounds_toArray, List.set_cons_zero, List.set_cons_succ]
            have I6 : RBuf boE gB w w5.drew (.slice (some ⟨gB, 0, none⟩) n n) (needQ l i) := I5.later ((Below.refl _ _).drew)
            generalize w5.drew = X0 at hHeld I6 ⊢
            refine wpAnyH_ready (rs := [5]) (by kernel_rfl) (by simp) ?_
            refine readyOne rfl (fun K' hK => ?_)
            go_simp
            refine (HSO.out _).mono ?_
            rintro e wS ⟨rfl, kS⟩
            go_wp2_with fail
            refine hK.out _ _ (hHeld.later kS) (fun hS2 => ?_)
            clear hK K' hHeld
            have hHeld := hS2
            clear hS2
            try simp only [Act.put, List.setIfInBounds_toArray, List.set_cons_zero, List.set_cons_succ]
            replace I6 := I6.later kS
            clear kS
            refine takeL (i := 6) (v := .int .i64 (i : Int)) rfl (by kernel_rfl) (by kernel_rfl) (by kernel_rfl) (fun _ _ _ h => h) (Or.inl ⟨by rfl, ?_⟩) (by assumption) ?_
            · intro x hSx; have hlk := (H5.out x hSx).2.1; go_simp
            try simp only [Act.put, List.setIfInBounds_toArray, List.set_cons_zero, List.set_cons_succ]
            refine takeL (i := 8) (v := .bool true) rfl (by kernel_rfl) (by kernel_rfl) (by kernel_rfl) (fun _ _ _ h => h) (Or.inl ⟨by rfl, ?_⟩) (by assumption) ?_
            · intro x hSx; go_simp
            try simp only [Act.put, List.setIfInBounds_toArray, List.set_cons_zero, List.set_cons_succ]
            refine takeL (i := 9) (v := .bool true) rfl (by kernel_rfl) (by kernel_rfl) (by kernel_rfl) (fun _ _ _ h => h) (Or.inl ⟨by rfl, ?_⟩) (by assumption) ?_
            · intro x hSx; go_simp
            try simp only [Act.put, List.setIfInBounds_toArray, List.set_cons_zero, List.set_cons_succ]
            refine takeL (i := 10) (v := .slice (some ⟨gr, 0, none⟩) 6 6) rfl (by kernel_rfl) (by kernel_rfl) (by kernel_rfl) (fun _ _ _ h => h) (Or.inl ⟨by rfl, ?_⟩) (by assumption) ?_
            · intro x hSx; go_simp
            try simp only [Act.put, List.setIfInBounds_toArray, List.set_cons_zero, List.set_cons_succ]
            refine takeL (i := 11) (v := .pointer (some ⟨gi, 1, none⟩)) rfl (by kernel_rfl) (by kernel_rfl) (by kernel_rfl) (fun _ _ _ h => h) (Or.inl ⟨by rfl, ?_⟩) (by assumption) ?_
            · intro x hSx; go_simp
            try simp only [Act.put, List.setIfInBounds_toArray, List.set_cons_zero, List.set_cons_succ]
            refine takeL (i := 12) (v := .pointer (some ⟨gi, 1, none⟩)) rfl (by kernel_rfl) (by kernel_rfl) (by kernel_rfl) (fun _ _ _ h => h) (Or.inl ⟨by rfl, ?_⟩) (by assumption) ?_
            · intro x hSx; go_simp
            try simp only [Act.put, List.setIfInBounds_toArray, List.set_cons_zero, List.set_cons_succ]
            refine takeL (i := 13) (v := .int .i64 1) rfl (by kernel_rfl) (by kernel_rfl) (by kernel_rfl) (fun _ _ _ h => h) (Or.inl ⟨by rfl, ?_⟩) (by assumption) ?_
            · intro x hSx; obtain ⟨d0, d1, d2, d3, d4, d5, d6, d7, d8⟩ := (H5.out x hSx).1; go_simp
            try simp only [Act.put, List.setIfInBounds_toArray, List.set_cons_zero, List.set_cons_succ]
            refine takeL (i := 14) (v := .pointer (some ⟨gr, 1, none⟩)) rfl (by kernel_rfl) (by kernel_rfl) (by kernel_rfl) (fun _ _ _ h => h) (Or.inl ⟨by rfl, ?_⟩) (by assumption) ?_
            · intro x hSx; go_simp
            try simp only [Act.put, List.setIfInBounds_toArray, List.set_cons_zero, List.set_cons_succ]
            refine takeL (i := 15) (v := .func (.func 85) #[] #[.pointer (some ⟨g5, 0, none⟩)]) rfl (by kernel_rfl) (by kernel_rfl) (by kernel_rfl) (fun _ _ _ h => h) (Or.inl ⟨by rfl, ?_⟩) (by assumption) ?_
            · intro x hSx; obtain ⟨e1, e2, e3, e4, e5⟩ := (H5.out x hSx).2.2.1; go_simp
            try simp only [Act.put, List.setIfInBounds_toArray, List.set_cons_zero, List.set_cons_succ]
            refine takeL (i := 16) (v := .pointer (some ⟨gi, 1, none⟩)) rfl (by kernel_rfl) (by kernel_rfl) (by kernel_rfl) (fun _ _ _ h => h) (Or.inl ⟨by rfl, ?_⟩) (by assumption) ?_
            · intro x hSx; go_simp
            try simp only [Act.put, List.setIfInBounds_toArray, List.set_cons_zero, List.set_cons_succ]
            refine takeL (i := 17) (v := .agg #[.int .i64 1, .int .i64 V, .int .i64 U, .int .i64 N, .int .i64 FL, .string US, .string NM, .string TX]) rfl (by kernel_rfl) (by kernel_rfl) (by kernel_rfl) (fun _ _ _ h => h) (Or.inl ⟨by rfl, ?_⟩) (by assumption) ?_
            · intro x hSx; obtain ⟨d0, d1, d2, d3, d4, d5, d6, d7, d8⟩ := (H5.out x hSx).1; go_simp
            try simp only [Act.put, List.setIfInBounds_toArray, List.set_cons_zero, List.set_cons_succ]
            have HCL := Lib.hid ((HWX.out _ (H5.out _ hHeld).2.2.2).1)
            refine wpAnyH_ready (rs := [18]) (by kernel_rfl) (by simp) ?_
            refine readyOne rfl (fun K' hK => ?_)
            go_simp
            go_at_call 85
            refine HCL.out.mono ?_
            rintro e wC ⟨rfl, kC⟩
            go_wp2_with fail
            refine hK.out _ _ (hHeld.later kC) (fun hS2 => ?_)
            clear hK K' hHeld HCL
            have hHeld := hS2
            clear hS2
            try simp only [Act.put, List.setIfInBounds_toArray, List.set_cons_zero, List.set_cons_succ]
            replace I6 := I6.later kC
            clear kC
            refine takeL (i := 19) (v := .bool WB) rfl (by kernel_rfl) (by kernel_rfl) (by kernel_rfl) (fun _ _ _ h => h) (Or.inl ⟨by rfl, ?_⟩) (by assumption) ?_
            · intro x hSx; go_simp
            try simp only [Act.put, List.setIfInBounds_toArray, List.set_cons_zero, List.set_cons_succ]
            refine takeL (i := 20) (v := .pointer (some ⟨gB, i, none⟩)) rfl (by kernel_rfl) (by kernel_rfl) (by kernel_rfl) (fun _ _ _ h => h) (Or.inl ⟨by rfl, ?_⟩) (by assumption) ?_
            · intro x hSx; go_simp
            try simp only [Act.put, List.setIfInBounds_toArray, List.set_cons_zero, List.set_cons_succ]
            obtain ⟨cB, lB, hst⟩ := HCB.out _ I6
            have hst2 := hst (WB)
            refine wpAnyH_ready (rs := [21]) (by kernel_rfl) (by simp) ?_
            refine readyOne rfl (fun K' hK => ?_)
            go_simp
            refine hK.out _ _ (hHeld.put i (.bool (WB))) (fun hS2 => ?_)
            clear hK K' cB lB
            try simp only [Act.put, List.setIfInBounds_toArray, List.set_cons_zero, List.set_cons_succ]
            refine wpAnyH_done (by kernel_rfl) ?_ _
            rw [HE.out] at HQS
            rw [HQS.out] at hst2
            have HST := Lib.hid hst2
            have HKS := Lib.hid (ks5.trans hS2)
            clear hst2 hst hS2 hHeld I6
            go_wp2
            exact ⟨⟨i + 1, by omega, by simp, HST.out, HKS.out⟩, by first | omega | (simp [intOf]; omega)⟩
          · rw [HWA.out, if_neg (by decide), if_pos rfl] at HE
            clear HWA
            generalize l.any (othB 2 V) = WB at HE HWX
            refine wp_region_held_drew (S := fun x => KS w5 gB none x) (by kernel_rfl) (KS.drew w5 gB none) (fun hHeld => ?_)
            refine takeL (i := 0) (v := .slice (some ⟨gB, 0, none⟩) n n) rfl (by kernel_rfl) (by kernel_rfl) (by kernel_rfl) (fun _ _ _ h => h) (Or.inl ⟨by rfl, ?_⟩) (by assumption) ?_
            · intro x hSx; go_simp
            try simp only [Act.put, List.setIfInBounds_toArray, List.set_cons_zero, List.set_cons_succ]
            refine takeL (i := 1) (v := .int .i64 (i : Int)) rfl (by kernel_rfl) (by kernel_rfl) (by kernel_rfl) (fun _ _ _ h => h) (Or.inl ⟨by rfl, ?_⟩) (by assumption) ?_
            · intro x hSx; go_simp
            try simp only [Act.put, List.setIfInBounds_toArray, List.set_cons_zero, List.set_cons_succ]
            refine takeL (i := 2) (v := .map (some gM)) rfl (by kernel_rfl) (by kernel_rfl) (by kernel_rfl) (fun _ _ _ h => h) (Or.inl ⟨by rfl, ?_⟩) (by assumption) ?_
            · intro x hSx; go_simp
            try simp only [Act.put, List.setIfInBounds_toArray, List.set_cons_zero, List.set_cons_succ]
            refine takeL (i := 3) (v := .pointer (some ⟨gi, 1, none⟩)) rfl (by kernel_rfl) (by kernel_rfl) (by kernel_rfl) (fun _ _ _ h => h) (Or.inl ⟨by rfl, ?_⟩) (by assumption) ?_
            · intro x hSx; go_simp
            try simp only [Act.put, List.setIfInBounds_toArray, List.set_cons_zero, List.set_cons_succ]
            refine takeL (i := 4) (v := .agg #[.int .i64 2, .int .i64 V, .int .i64 U, .int .i64 N, .int .i64 FL, .string US, .string NM, .string TX]) rfl (by kernel_rfl) (by kernel_rfl) (by kernel_rfl) (fun _ _ _ h => h) (Or.inl ⟨by rfl, ?_⟩) (by assumption) ?_
            · intro x hSx; obtain ⟨d0, d1, d2, d3, d4, d5, d6, d7, d8⟩ := (H5.out x hSx).1; go_simp
            try simp only [Act.put, List.setIfInBounds_toArray, List.set_cons_zero, List.set_cons_succ]
            refine takeL (i := 7) (v := .int .i64 (i : Int)) rfl (by kernel_rfl) (by kernel_rfl) (by kernel_rfl) (fun _ _ _ h => h) (Or.inl ⟨by rfl, ?_⟩) (by assumption) ?_
            · intro x hSx; go_simp
            try simp only [Act.put, List.setIfInBounds_toArray, List.set_cons_zero, List.set_cons_succ]
            have I6 : RBuf boE gB w w5.drew (.slice (some ⟨gB, 0, none⟩) n n) (needQ l i) := I5.later ((Below.refl _ _).drew)
            generalize w5.drew = X0 at hHeld I6 ⊢
            refine wpAnyH_ready (rs := [5]) (by kernel_rfl) (by simp) ?_
            refine readyOne rfl (fun K' hK => ?_)
            go_simp
            refine (HSO.out _).mono ?_
            rintro e wS ⟨rfl, kS⟩
            go_wp2_with fail
            refine hK.out _ _ (hHeld.later kS) (fun hS2 => ?_)
            clear hK K' hHeld
            have hHeld := hS2
            clear hS2
            try simp only [Act.put, List.setIfInBounds_toArray, List.set_cons_zero, List.set_cons_succ]
            replace I6 := I6.later kS
            clear kS
            refine takeL (i := 6) (v := .int .i64 (i : Int)) rfl (by kernel_rfl) (by kernel_rfl) (by kernel_rfl) (fun _ _ _ h => h) (Or.inl ⟨by rfl, ?_⟩) (by assumption) ?_
            · intro x hSx; have hlk := (H5.out x hSx).2.1; go_simp
            try simp only [Act.put, List.setIfInBounds_toArray, List.set_cons_zero, List.set_cons_succ]
            refine takeL (i := 8) (v := .bool true) rfl (by kernel_rfl) (by kernel_rfl) (by kernel_rfl) (fun _ _ _ h => h) (Or.inl ⟨by rfl, ?_⟩) (by assumption) ?_
            · intro x hSx; go_simp
            try simp only [Act.put, List.setIfInBounds_toArray, List.set_cons_zero, List.set_cons_succ]
            refine takeL (i := 9) (v := .bool true) rfl (by kernel_rfl) (by kernel_rfl) (by kernel_rfl) (fun _ _ _ h => h) (Or.inl ⟨by rfl, ?_⟩) (by assumption) ?_
            · intro x hSx; go_simp
            try simp only [Act.put, List.setIfInBounds_toArray, List.set_cons_zero, List.set_cons_succ]
            refine takeL (i := 10) (v := .slice (some ⟨gr, 0, none⟩) 6 6) rfl (by kernel_rfl) (by kernel_rfl) (by kernel_rfl) (fun _ _ _ h => h) (Or.inl ⟨by rfl, ?_⟩) (by assumption) ?_
            · intro x hSx; go_simp
            try simp only [Act.put, List.setIfInBounds_toArray, List.set_cons_zero, List.set_cons_succ]
            refine takeL (i := 11) (v := .pointer (some ⟨gi, 1, none⟩)) rfl (by kernel_rfl) (by kernel_rfl) (by kernel_rfl) (fun _ _ _ h => h) (Or.inl ⟨by rfl, ?_⟩) (by assumption) ?_
            · intro x hSx; go_simp
            try simp only [Act.put, List.setIfInBounds_toArray, List.set_cons_zero, List.set_cons_succ]
            refine takeL (i := 12) (v := .pointer (some ⟨gi, 1, none⟩)) rfl (by kernel_rfl) (by kernel_rfl) (by kernel_rfl) (fun _ _ _ h => h) (Or.inl ⟨by rfl, ?_⟩) (by assumption) ?_
            · intro x hSx; go_simp
            try simp only [Act.put, List.setIfInBounds_toArray, List.set_cons_zero, List.set_cons_succ]
            refine takeL (i := 13) (v := .int .i64 2) rfl (by kernel_rfl) (by kernel_rfl) (by kernel_rfl) (fun _ _ _ h => h) (Or.inl ⟨by rfl, ?_⟩) (by assumption) ?_
            · intro x hSx; obtain ⟨d0, d1, d2, d3, d4, d5, d6, d7, d8⟩ := (H5.out x hSx).1; go_simp
            try simp only [Act.put, List.setIfInBounds_toArray, List.set_cons_zero, List.set_cons_succ]
            refine takeL (i := 14) (v := .pointer (some ⟨gr, 2, none⟩)) rfl (by kernel_rfl) (by kernel_rfl) (by kernel_rfl) (fun _ _ _ h => h) (Or.inl ⟨by rfl, ?_⟩) (by assumption) ?_
            · intro x hSx; go_simp
            try simp only [Act.put, List.setIfInBounds_toArray, List.set_cons_zero, List.set_cons_succ]
            refine takeL (i := 15) (v := .func (.func 88) #[] #[.pointer (some ⟨g2, 0, none⟩)]) rfl (by kernel_rfl) (by kernel_rfl) (by kernel_rfl) (fun _ _ _ h => h) (Or.inl ⟨by rfl, ?_⟩) (by assumption) ?_
            · intro x hSx; obtain ⟨e1, e2, e3, e4, e5⟩ := (H5.out x hSx).2.2.1; go_simp
            try simp only [Act.put, List.setIfInBounds_toArray, List.set_cons_zero, List.set_cons_succ]
            refine takeL (i := 16) (v := .pointer (some ⟨gi, 1, none⟩)) rfl (by kernel_rfl) (by kernel_rfl) (by kernel_rfl) (fun _ _ _ h => h) (Or.inl ⟨by rfl, ?_⟩) (by assumption) ?_
            · intro x hSx; go_simp
            try simp only [Act.put, List.setIfInBounds_toArray, List.set_cons_zero, List.set_cons_succ]
            refine takeL (i := 17) (v := .agg #[.int .i64 2, .int .i64 V, .int .i64 U, .int .i64 N, .int .i64 FL, .string US, .string NM, .string TX]) rfl (by kernel_rfl) (by kernel_rfl) (by kernel_rfl) (fun _ _ _ h => h) (Or.inl ⟨by rfl, ?_⟩) (by assumption) ?_
            · intro x hSx; obtain ⟨d0, d1, d2, d3, d4, d5, d6, d7, d8⟩ := (H5.out x hSx).1; go_simp
            try simp only [Act.put, List.setIfInBounds_toArray, List.set_cons_zero, List.set_cons_succ]
            have HCL := Lib.hid ((HWX.out _ (H5.out _ hHeld).2.2.2).2.2.2)
            refine wpAnyH_ready (rs := [18]) (by kernel_rfl) (by simp) ?_
            refine readyOne rfl (fun K' hK => ?_)
            go_simp
            go_at_call 88
            refine HCL.out.mono ?_
            rintro e wC ⟨rfl, kC⟩
            go_wp2_with fail
            refine hK.out _ _ (hHeld.later kC) (fun hS2 => ?_)
            clear hK K' hHeld HCL
            have hHeld := hS2
            clear hS2
            try simp only [Act.put, List.setIfInBounds_toArray, List.set_cons_zero, List.set_cons_succ]
            replace I6 := I6.later kC
            clear kC
            refine takeL (i := 19) (v := .bool WB) rfl (by kernel_rfl) (by kernel_rfl) (by kernel_rfl) (fun _ _ _ h => h) (Or.inl ⟨by rfl, ?_⟩) (by assumption) ?_
            · intro x hSx; go_simp
            try simp only [Act.put, List.setIfInBounds_toArray, List.set_cons_zero, List.set_cons_succ]
            refine takeL (i := 20) (v := .pointer (some ⟨gB, i, none⟩)) rfl (by kernel_rfl) (by kernel_rfl) (by kernel_rfl) (fun _ _ _ h => h) (Or.inl ⟨by rfl, ?_⟩) (by assumption) ?_
            · intro x hSx; go_simp
            try simp only [Act.put, List.setIfInBounds_toArray, List.set_cons_zero, List.set_cons_succ]
            obtain ⟨cB, lB, hst⟩ := HCB.out _ I6
            have hst2 := hst (WB)
            refine wpAnyH_ready (rs := [21]) (by kernel_rfl) (by simp) ?_
            refine readyOne rfl (fun K' hK => ?_)
            go_simp
            refine hK.out _ _ (hHeld.put i (.bool (WB))) (fun hS2 => ?_)
            clear hK K' cB lB
            try simp only [Act.put, List.setIfInBounds_toArray, List.set_cons_zero, List.set_cons_succ]
            refine wpAnyH_done (by kernel_rfl) ?_ _
            rw [HE.out] at HQS
            rw [HQS.out] at hst2
            have HST := Lib.hid hst2
            have HKS := Lib.hid (ks5.trans hS2)
            clear hst2 hst hS2 hHeld I6
            go_wp2
            exact ⟨⟨i + 1, by omega, by simp, HST.out, HKS.out⟩, by first | omega | (simp [intOf]; omega)⟩
          · rw [HWA.out, if_neg (by decide), if_neg (by decide), if_neg (by decide)] at HE
            clear HWA
            generalize mailO f V U = WB at HE HWX
            refine wp_region_held_drew (S := fun x => KS w5 gB none x) (by kernel_rfl) (KS.drew w5 gB none) (fun hHeld => ?_)
            refine takeL (i := 0) (v := .slice (some ⟨gB, 0, none⟩) n n) rfl (by kernel_rfl) (by kernel_rfl) (by kernel_rfl) (fun _ _ _ h => h) (Or.inl ⟨by rfl, ?_⟩) (by assumption) ?_
            · intro x hSx; go_simp
            try simp only [Act.put, List.setIfInBounds_toArray, List.set_cons_zero, List.set_cons_succ]
            refine takeL (i := 1) (v := .int .i64 (i : Int)) rfl (by kernel_rfl) (by kernel_rfl) (by kernel_rfl) (fun _ _ _ h => h) (Or.inl ⟨by rfl, ?_⟩) (by assumption) ?_
            · intro x hSx; go_simp
            try simp only [Act.put, List.setIfInBounds_toArray, List.set_cons_zero, List.set_cons_succ]
            refine takeL (i := 2) (v := .map (some gM)) rfl (by kernel_rfl) (by kernel_rfl) (by kernel_rfl) (fun _ _ _ h => h) (Or.inl ⟨by rfl, ?_⟩) (by assumption) ?_
            · intro x hSx; go_simp
            try simp only [Act.put, List.setIfInBounds_toArray, List.set_cons_zero, List.set_cons_succ]
            refine takeL (i := 3) (v := .pointer (some ⟨gi, 1, none⟩)) rfl (by kernel_rfl) (by kernel_rfl) (by kernel_rfl) (fun _ _ _ h => h) (Or.inl ⟨by rfl, ?_⟩) (by assumption) ?_
            · intro x hSx; go_simp
            try simp only [Act.put, List.setIfInBounds_toArray, List.set_cons_zero, List.set_cons_succ]
            refine takeL (i := 4) (v := .agg #[.int .i64 3, .int .i64 V, .int .i64 U, .int .i64 N, .int .i64 FL, .string US, .string NM, .string TX]) rfl (by kernel_rfl) (by kernel_rfl) (by kernel_rfl) (fun _ _ _ h => h) (Or.inl ⟨by rfl, ?_⟩) (by assumption) ?_
            · intro x hSx; obtain ⟨d0, d1, d2, d3, d4, d5, d6, d7, d8⟩ := (H5.out x hSx).1; go_simp
            try simp only [Act.put, List.setIfInBounds_toArray, List.set_cons_zero, List.set_cons_succ]
            refine takeL (i := 7) (v := .int .i64 (i : Int)) rfl (by kernel_rfl) (by kernel_rfl) (by kernel_rfl) (fun _ _ _ h => h) (Or.inl ⟨by rfl, ?_⟩) (by assumption) ?_
            · intro x hSx; go_simp
            try simp only [Act.put, List.setIfInBounds_toArray, List.set_cons_zero, List.set_cons_succ]
            have I6 : RBuf boE gB w w5.drew (.slice (some ⟨gB, 0, none⟩) n n) (needQ l i) := I5.later ((Below.refl _ _).drew)
            generalize w5.drew = X0 at hHeld I6 ⊢
            refine wpAnyH_ready (rs := [5]) (by kernel_rfl) (by simp) ?_
            refine readyOne rfl (fun K' hK => ?_)
            go_simp
            refine (HSO.out _).mono ?_
            rintro e wS ⟨rfl, kS⟩
            go_wp2_with fail
            refine hK.out _ _ (hHeld.later kS) (fun hS2 => ?_)
            clear hK K' hHeld
            have hHeld := hS2
            clear hS2
            try simp only [Act.put, List.setIfInBounds_toArray, List.set_cons_zero, List.set_cons_succ]
            replace I6 := I6.later kS
            clear kS
            refine takeL (i := 6) (v := .int .i64 (i : Int)) rfl (by kernel_rfl) (by kernel_rfl) (by kernel_rfl) (fun _ _ _ h => h) (Or.inl ⟨by rfl, ?_⟩) (by assumption) ?_
            · intro x hSx; have hlk := (H5.out x hSx).2.1; go_simp
            try simp only [Act.put, List.setIfInBounds_toArray, List.set_cons_zero, List.set_cons_succ]
            refine takeL (i := 8) (v := .bool true) rfl (by kernel_rfl) (by kernel_rfl) (by kernel_rfl) (fun _ _ _ h => h) (Or.inl ⟨by rfl, ?_⟩) (by assumption) ?_
            · intro x hSx; go_simp
            try simp only [Act.put, List.setIfInBounds_toArray, List.set_cons_zero, List.set_cons_succ]
            refine takeL (i := 9) (v := .bool true) rfl (by kernel_rfl) (by kernel_rfl) (by kernel_rfl) (fun _ _ _ h => h) (Or.inl ⟨by rfl, ?_⟩) (by assumption) ?_
            · intro x hSx; go_simp
            try simp only [Act.put, List.setIfInBounds_toArray, List.set_cons_zero, List.set_cons_succ]
            refine takeL (i := 10) (v := .slice (some ⟨gr, 0, none⟩) 6 6) rfl (by kernel_rfl) (by kernel_rfl) (by kernel_rfl) (fun _ _ _ h => h) (Or.inl ⟨by rfl, ?_⟩) (by assumption) ?_
            · intro x hSx; go_simp
            try simp only [Act.put, List.setIfInBounds_toArray, List.set_cons_zero, List.set_cons_succ]
            refine takeL (i := 11) (v := .pointer (some ⟨gi, 1, none⟩)) rfl (by kernel_rfl) (by kernel_rfl) (by kernel_rfl) (fun _ _ _ h => h) (Or.inl ⟨by rfl, ?_⟩) (by assumption) ?_
            · intro x hSx; go_simp
            try simp only [Act.put, List.setIfInBounds_toArray, List.set_cons_zero, List.set_cons_succ]
            refine takeL (i := 12) (v := .pointer (some ⟨gi, 1, none⟩)) rfl (by kernel_rfl) (by kernel_rfl) (by kernel_rfl) (fun _ _ _ h => h) (Or.inl ⟨by rfl, ?_⟩) (by assumption) ?_
            · intro x hSx; go_simp
            try simp only [Act.put, List.setIfInBounds_toArray, List.set_cons_zero, List.set_cons_succ]
            refine takeL (i := 13) (v := .int .i64 3) rfl (by kernel_rfl) (by kernel_rfl) (by kernel_rfl) (fun _ _ _ h => h) (Or.inl ⟨by rfl, ?_⟩) (by assumption) ?_
            · intro x hSx; obtain ⟨d0, d1, d2, d3, d4, d5, d6, d7, d8⟩ := (H5.out x hSx).1; go_simp
            try simp only [Act.put, List.setIfInBounds_toArray, List.set_cons_zero, List.set_cons_succ]
            refine takeL (i := 14) (v := .pointer (some ⟨gr, 3, none⟩)) rfl (by kernel_rfl) (by kernel_rfl) (by kernel_rfl) (fun _ _ _ h => h) (Or.inl ⟨by rfl, ?_⟩) (by assumption) ?_
            · intro x hSx; go_simp
            try simp only [Act.put, List.setIfInBounds_toArray, List.set_cons_zero, List.set_cons_succ]
            refine takeL (i := 15) (v := .func (.func 87) #[] #[.pointer (some ⟨g7, 0, none⟩), .pointer (some ⟨g5, 0, none⟩)]) rfl (by kernel_rfl) (by kernel_rfl) (by kernel_rfl) (fun _ _ _ h => h) (Or.inl ⟨by rfl, ?_⟩) (by assumption) ?_
            · intro x hSx; obtain ⟨e1, e2, e3, e4, e5⟩ := (H5.out x hSx).2.2.1; go_simp
            try simp only [Act.put, List.setIfInBounds_toArray, List.set_cons_zero, List.set_cons_succ]
            refine takeL (i := 16) (v := .pointer (some ⟨gi, 1, none⟩)) rfl (by kernel_rfl) (by kernel_rfl) (by kernel_rfl) (fun _ _ _ h => h) (Or.inl ⟨by rfl, ?_⟩) (by assumption) ?_
            · intro x hSx; go_simp
            try simp only [Act.put, List.setIfInBounds_toArray, List.set_cons_zero, List.set_cons_succ]
            refine takeL (i := 17) (v := .agg #[.int .i64 3, .int .i64 V, .int .i64 U, .int .i64 N, .int .i64 FL, .string US, .string NM, .string TX]) rfl (by kernel_rfl) (by kernel_rfl) (by kernel_rfl) (fun _ _ _ h => h) (Or.inl ⟨by rfl, ?_⟩) (by assumption) ?_
            · intro x hSx; obtain ⟨d0, d1, d2, d3, d4, d5, d6, d7, d8⟩ := (H5.out x hSx).1; go_simp
            try simp only [Act.put, List.setIfInBounds_toArray, List.set_cons_zero, List.set_cons_succ]
            have HCL := Lib.hid ((HWX.out _ (H5.out _ hHeld).2.2.2).2.2.1)
            refine wpAnyH_ready (rs := [18]) (by kernel_rfl) (by simp) ?_
            refine readyOne rfl (fun K' hK => ?_)
            go_simp
            go_at_call 87
            refine HCL.out.mono ?_
            rintro e wC ⟨rfl, kC⟩
            go_wp2_with fail
            refine hK.out _ _ (hHeld.later kC) (fun hS2 => ?_)
            clear hK K' hHeld HCL
            have hHeld := hS2
            clear hS2
            try simp only [Act.put, List.setIfInBounds_toArray, List.set_cons_zero, List.set_cons_succ]
            replace I6 := I6.later kC
            clear kC
            refine takeL (i := 19) (v := .bool WB) rfl (by kernel_rfl) (by kernel_rfl) (by kernel_rfl) (fun _ _ _ h => h) (Or.inl ⟨by rfl, ?_⟩) (by assumption) ?_
            · intro x hSx; go_simp
            try simp only [Act.put, List.setIfInBounds_toArray, List.set_cons_zero, List.set_cons_succ]
            refine takeL (i := 20) (v := .pointer (some ⟨gB, i, none⟩)) rfl (by kernel_rfl) (by kernel_rfl) (by kernel_rfl) (fun _ _ _ h => h) (Or.inl ⟨by rfl, ?_⟩) (by assumption) ?_
            · intro x hSx; go_simp
            try simp only [Act.put, List.setIfInBounds_toArray, List.set_cons_zero, List.set_cons_succ]
            obtain ⟨cB, lB, hst⟩ := HCB.out _ I6
            have hst2 := hst (WB)
            refine wpAnyH_ready (rs := [21]) (by kernel_rfl) (by simp) ?_
            refine readyOne rfl (fun K' hK => ?_)
            go_simp
            refine hK.out _ _ (hHeld.put i (.bool (WB))) (fun hS2 => ?_)
            clear hK K' cB lB
            try simp only [Act.put, List.setIfInBounds_toArray, List.set_cons_zero, List.set_cons_succ]
            refine wpAnyH_done (by kernel_rfl) ?_ _
            rw [HE.out] at HQS
            rw [HQS.out] at hst2
            have HST := Lib.hid hst2
            have HKS := Lib.hid (ks5.trans hS2)
            clear hst2 hst hS2 hHeld I6
            go_wp2
            exact ⟨⟨i + 1, by omega, by simp, HST.out, HKS.out⟩, by first | omega | (simp [intOf]; omega)⟩
          · rw [HWA.out, if_neg (by decide), if_neg (by decide), if_neg (by decide)] at HE
            clear HWA
            generalize mailO f V U = WB at HE HWX
            refine wp_region_held_drew (S := fun x => KS w5 gB none x) (by kernel_rfl) (KS.drew w5 gB none) (fun hHeld => ?_)
            refine takeL (i := 0) (v := .slice (some ⟨gB, 0, none⟩) n n) rfl (by kernel_rfl) (by kernel_rfl) (by kernel_rfl) (fun _ _ _ h => h) (Or.inl ⟨by rfl, ?_⟩) (by assumption) ?_
            · intro x hSx; go_simp
            try simp only [Act.put, List.setIfInBounds_toArray, List.set_cons_zero, List.set_cons_succ]
            refine takeL (i := 1) (v := .int .i64 (i : Int)) rfl (by kernel_rfl) (by kernel_rfl) (by kernel_rfl) (fun _ _ _ h => h) (Or.inl ⟨by rfl, ?_⟩) (by assumption) ?_
            · intro x hSx; go_simp
            try simp only [Act.put, List.setIfInBounds_toArray, List.set_cons_zero, List.set_cons_succ]
            refine takeL (i := 2) (v := .map (some gM)) rfl (by kernel_rfl) (by kernel_rfl) (by kernel_rfl) (fun _ _ _ h => h) (Or.inl ⟨by rfl, ?_⟩) (by assumption) ?_
            · intro x hSx; go_simp
            try simp only [Act.put, List.setIfInBounds_toArray, List.set_cons_zero, List.set_cons_succ]
            refine takeL (i := 3) (v := .pointer (some ⟨gi, 1, none⟩)) rfl (by kernel_rfl) (by kernel_rfl) (by kernel_rfl) (fun _ _ _ h => h) (Or.inl ⟨by rfl, ?_⟩) (by assumption) ?_
            · intro x hSx; go_simp
            try simp only [Act.put, List.setIfInBounds_toArray, List.set_cons_zero, List.set_cons_succ]
            refine takeL (i := 4) (v := .agg #[.int .i64 4, .int .i64 V, .int .i64 U, .int .i64 N, .int .i64 FL, .string US, .string NM, .string TX]) rfl (by kernel_rfl) (by kernel_rfl) (by kernel_rfl) (fun _ _ _ h => h) (Or.inl ⟨by rfl, ?_⟩) (by assumption) ?_
            · intro x hSx; obtain ⟨d0, d1, d2, d3, d4, d5, d6, d7, d8⟩ := (H5.out x hSx).1; go_simp
            try simp only [Act.put, List.setIfInBounds_toArray, List.set_cons_zero, List.set_cons_succ]
            refine takeL (i := 7) (v := .int .i64 (i : Int)) rfl (by kernel_rfl) (by kernel_rfl) (by kernel_rfl) (fun _ _ _ h => h) (Or.inl ⟨by rfl, ?_⟩) (by assumption) ?_
            · intro x hSx; go_simp
            try simp only [Act.put, List.setIfInBounds_toArray, List.set_cons_zero, List.set_cons_succ]
            have I6 : RBuf boE gB w w5.drew (.slice (some ⟨gB, 0, none⟩) n n) (needQ l i) := I5.later ((Below.refl _ _).drew)
            generalize w5.drew = X0 at hHeld I6 ⊢
            refine wpAnyH_ready (rs := [5]) (by kernel_rfl) (by simp) ?_
            refine readyOne rfl (fun K' hK => ?_)
            go_simp
            refine (HSO.out _).mono ?_
            rintro e wS ⟨rfl, kS⟩
            go_wp2_with fail
            refine hK.out _ _ (hHeld.later kS) (fun hS2 => ?_)
            clear hK K' hHeld
            have hHeld := hS2
            clear hS2
            try simp only [Act.put, List.setIfInBounds_toArray, List.set_cons_zero, List.set_cons_succ]
            replace I6 := I6.later kS
            clear kS
            refine takeL (i := 6) (v := .int .i64 (i : Int)) rfl (by kernel_rfl) (by kernel_rfl) (by kernel_rfl) (fun _ _ _ h => h) (Or.inl ⟨by rfl, ?_⟩) (by assumption) ?_
            · intro x hSx; have hlk := (H5.out x hSx).2.1; go_simp
            try simp only [Act.put, List.setIfInBounds_toArray, List.set_cons_zero, List.set_cons_succ]
            refine takeL (i := 8) (v := .bool true) rfl (by kernel_rfl) (by kernel_rfl) (by kernel_rfl) (fun _ _ _ h => h) (Or.inl ⟨by rfl, ?_⟩) (by assumption) ?_
            · intro x hSx; go_simp
            try simp only [Act.put, List.setIfInBounds_toArray, List.set_cons_zero, List.set_cons_succ]
            refine takeL (i := 9) (v := .bool true) rfl (by kernel_rfl) (by kernel_rfl) (by kernel_rfl) (fun _ _ _ h => h) (Or.inl ⟨by rfl, ?_⟩) (by assumption) ?_
            · intro x hSx; go_simp
            try simp only [Act.put, List.setIfInBounds_toArray, List.set_cons_zero, List.set_cons_succ]
            refine takeL (i := 10) (v := .slice (some ⟨gr, 0, none⟩) 6 6) rfl (by kernel_rfl) (by kernel_rfl) (by kernel_rfl) (fun _ _ _ h => h) (Or.inl ⟨by rfl, ?_⟩) (by assumption) ?_
            · intro x hSx; go_simp
            try simp only [Act.put, List.setIfInBounds_toArray, List.set_cons_zero, List.set_cons_succ]
            refine takeL (i := 11) (v := .pointer (some ⟨gi, 1, none⟩)) rfl (by kernel_rfl) (by kernel_rfl) (by kernel_rfl) (fun _ _ _ h => h) (Or.inl ⟨by rfl, ?_⟩) (by assumption) ?_
            · intro x hSx; go_simp
            try simp only [Act.put, List.setIfInBounds_toArray, List.set_cons_zero, List.set_cons_succ]
            refine takeL (i := 12) (v := .pointer (some ⟨gi, 1, none⟩)) rfl (by kernel_rfl) (by kernel_rfl) (by kernel_rfl) (fun _ _ _ h => h) (Or.inl ⟨by rfl, ?_⟩) (by assumption) ?_
            · intro x hSx; go_simp
            try simp only [Act.put, List.setIfInBounds_toArray, List.set_cons_zero, List.set_cons_succ]
            refine takeL (i := 13) (v := .int .i64 4) rfl (by kernel_rfl) (by kernel_rfl) (by kernel_rfl) (fun _ _ _ h => h) (Or.inl ⟨by rfl, ?_⟩) (by assumption) ?_
            · intro x hSx; obtain ⟨d0, d1, d2, d3, d4, d5, d6, d7, d8⟩ := (H5.out x hSx).1; go_simp
            try simp only [Act.put, List.setIfInBounds_toArray, List.set_cons_zero, List.set_cons_succ]
            refine takeL (i := 14) (v := .pointer (some ⟨gr, 4, none⟩)) rfl (by kernel_rfl) (by kernel_rfl) (by kernel_rfl) (fun _ _ _ h => h) (Or.inl ⟨by rfl, ?_⟩) (by assumption) ?_
            · intro x hSx; go_simp
            try simp only [Act.put, List.setIfInBounds_toArray, List.set_cons_zero, List.set_cons_succ]
            refine takeL (i := 15) (v := .func (.func 87) #[] #[.pointer (some ⟨g7, 0, none⟩), .pointer (some ⟨g5, 0, none⟩)]) rfl (by kernel_rfl) (by kernel_rfl) (by kernel_rfl) (fun _ _ _ h => h) (Or.inl ⟨by rfl, ?_⟩) (by assumption) ?_
            · intro x hSx; obtain ⟨e1, e2, e3, e4, e5⟩ := (H5.out x hSx).2.2.1; go_simp
            try simp only [Act.put, List.setIfInBounds_toArray, List.set_cons_zero, List.set_cons_succ]
            refine takeL (i := 16) (v := .pointer (some ⟨gi, 1, none⟩)) rfl (by kernel_rfl) (by kernel_rfl) (by kernel_rfl) (fun _ _ _ h => h) (Or.inl ⟨by rfl, ?_⟩) (by assumption) ?_
            · intro x hSx; go_simp
            try simp only [Act.put, List.setIfInBounds_toArray, List.set_cons_zero, List.set_cons_succ]
            refine takeL (i := 17) (v := .agg #[.int .i64 4, .int .i64 V, .int .i64 U, .int .i64 N, .int .i64 FL, .string US, .string NM, .string TX]) rfl (by kernel_rfl) (by kernel_rfl) (by kernel_rfl) (fun _ _ _ h => h) (Or.inl ⟨by rfl, ?_⟩) (by assumption) ?_
            · intro x hSx; obtain ⟨d0, d1, d2, d3, d4, d5, d6, d7, d8⟩ := (H5.out x hSx).1; go_simp
            try simp only [Act.put, List.setIfInBounds_toArray, List.set_cons_zero, List.set_cons_succ]
            have HCL := Lib.hid ((HWX.out _ (H5.out _ hHeld).2.2.2).2.2.1)
            refine wpAnyH_ready (rs := [18]) (by kernel_rfl) (by simp) ?_
            refine readyOne rfl (fun K' hK => ?_)
            go_simp
            go_at_call 87
            refine HCL.out.mono ?_
            rintro e wC ⟨rfl, kC⟩
            go_wp2_with fail
            refine hK.out _ _ (hHeld.later kC) (fun hS2 => ?_)
            clear hK K' hHeld HCL
            have hHeld := hS2
            clear hS2
            try simp only [Act.put, List.setIfInBounds_toArray, List.set_cons_zero, List.set_cons_succ]
            replace I6 := I6.later kC
            clear kC
            refine takeL (i := 19) (v := .bool WB) rfl (by kernel_rfl) (by kernel_rfl) (by kernel_rfl) (fun _ _ _ h => h) (Or.inl ⟨by rfl, ?_⟩) (by assumption) ?_
            · intro x hSx; go_simp
            try simp only [Act.put, List.setIfInBounds_toArray, List.set_cons_zero, List.set_cons_succ]
            refine takeL (i := 20) (v := .pointer (some ⟨gB, i, none⟩)) rfl (by kernel_rfl) (by kernel_rfl) (by kernel_rfl) (fun _ _ _ h => h) (Or.inl ⟨by rfl, ?_⟩) (by assumption) ?_
            · intro x hSx; go_simp
            try simp only [Act.put, List.setIfInBounds_toArray, List.set_cons_zero, List.set_cons_succ]
            obtain ⟨cB, lB, hst⟩ := HCB.out _ I6
            have hst2 := hst (WB)
            refine wpAnyH_ready (rs := [21]) (by kernel_rfl) (by simp) ?_
            refine readyOne rfl (fun K' hK => ?_)
            go_simp
            refine hK.out _ _ (hHeld.put i (.bool (WB))) (fun hS2 => ?_)
            clear hK K' cB lB
            try simp only [Act.put, List.setIfInBounds_toArray, List.set_cons_zero, List.set_cons_succ]
            refine wpAnyH_done (by kernel_rfl) ?_ _
            rw [HE.out] at HQS
            rw [HQS.out] at hst2
            have HST := Lib.hid hst2
            have HKS := Lib.hid (ks5.trans hS2)
            clear hst2 hst hS2 hHeld I6
            go_wp2
            exact ⟨⟨i + 1, by omega, by simp, HST.out, HKS.out⟩, by first | omega | (simp [intOf]; omega)⟩
          · rw [HWA.out, if_neg (by decide), if_neg (by decide), if_pos rfl] at HE
            clear HWA
            generalize addO f V U = WB at HE HWX
            refine wp_region_held_drew (S := fun x => KS w5 gB none x) (by kernel_rfl) (KS.drew w5 gB none) (fun hHeld => ?_)
            refine takeL (i := 0) (v := .slice (some ⟨gB, 0, none⟩) n n) rfl (by kernel_rfl) (by kernel_rfl) (by kernel_rfl) (fun _ _ _ h => h) (Or.inl ⟨by rfl, ?_⟩) (by assumption) ?_
            · intro x hSx; go_simp
            try simp only [Act.put, List.setIfInBounds_toArray, List.set_cons_zero, List.set_cons_succ]
            refine takeL (i := 1) (v := .int .i64 (i : Int)) rfl (by kernel_rfl) (by kernel_rfl) (by kernel_rfl) (fun _ _ _ h => h) (Or.inl ⟨by rfl, ?_⟩) (by assumption) ?_
            · intro x hSx; go_simp
            try simp only [Act.put, List.setIfInBounds_toArray, List.set_cons_zero, List.set_cons_succ]
            refine takeL (i := 2) (v := .map (some gM)) rfl (by kernel_rfl) (by kernel_rfl) (by kernel_rfl) (fun _ _ _ h => h) (Or.inl ⟨by rfl, ?_⟩) (by assumption) ?_
            · intro x hSx; go_simp
            try simp only [Act.put, List.setIfInBounds_toArray, List.set_cons_zero, List.set_cons_succ]
            refine takeL (i := 3) (v := .pointer (some ⟨gi, 1, none⟩)) rfl (by kernel_rfl) (by kernel_rfl) (by kernel_rfl) (fun _ _ _ h => h) (Or.inl ⟨by rfl, ?_⟩) (by assumption) ?_
            · intro x hSx; go_simp
            try simp only [Act.put, List.setIfInBounds_toArray, List.set_cons_zero, List.set_cons_succ]
            refine takeL (i := 4) (v := .agg #[.int .i64 5, .int .i64 V, .int .i64 U, .int .i64 N, .int .i64 FL, .string US, .string NM, .string TX]) rfl (by kernel_rfl) (by kernel_rfl) (by kernel_rfl) (fun _ _ _ h => h) (Or.inl ⟨by rfl, ?_⟩) (by assumption) ?_
            · intro x hSx; obtain ⟨d0, d1, d2, d3, d4, d5, d6, d7, d8⟩ := (H5.out x hSx).1; go_simp
            try simp only [Act.put, List.setIfInBounds_toArray, List.set_cons_zero, List.set_cons_succ]
            refine takeL (i := 7) (v := .int .i64 (i : Int)) rfl (by kernel_rfl) (by kernel_rfl) (by kernel_rfl) (fun _ _ _ h => h) (Or.inl ⟨by rfl, ?_⟩) (by assumption) ?_
            · intro x hSx; go_simp
            try simp only [Act.put, List.setIfInBounds_toArray, List.set_cons_zero, List.set_cons_succ]
            have I6 : RBuf boE gB w w5.drew (.slice (some ⟨gB, 0, none⟩) n n) (needQ l i) := I5.later ((Below.refl _ _).drew)
            generalize w5.drew = X0 at hHeld I6 ⊢
            refine wpAnyH_ready (rs := [5]) (by kernel_rfl) (by simp) ?_
            refine readyOne rfl (fun K' hK => ?_)
            go_simp
            refine (HSO.out _).mono ?_
            rintro e wS ⟨rfl, kS⟩
            go_wp2_with fail
            refine hK.out _ _ (hHeld.later kS) (fun hS2 => ?_)
            clear hK K' hHeld
            have hHeld := hS2
            clear hS2
            try simp only [Act.put, List.setIfInBounds_toArray, List.set_cons_zero, List.set_cons_succ]
            replace I6 := I6.later kS
            clear kS
            refine takeL (i := 6) (v := .int .i64 (i : Int)) rfl (by kernel_rfl) (by kernel_rfl) (by kernel_rfl) (fun _ _ _ h => h) (Or.inl ⟨by rfl, ?_⟩) (by assumption) ?_
            · intro x hSx; have hlk := (H5.out x hSx).2.1; go_simp
            try simp only [Act.put, List.setIfInBounds_toArray, List.set_cons_zero, List.set_cons_succ]
            refine takeL (i := 8) (v := .bool true) rfl (by kernel_rfl) (by kernel_rfl) (by kernel_rfl) (fun _ _ _ h => h) (Or.inl ⟨by rfl, ?_⟩) (by assumption) ?_
            · intro x hSx; go_simp
            try simp only [Act.put, List.setIfInBounds_toArray, List.set_cons_zero, List.set_cons_succ]
            refine takeL (i := 9) (v := .bool true) rfl (by kernel_rfl) (by kernel_rfl) (by kernel_rfl) (fun _ _ _ h => h) (Or.inl ⟨by rfl, ?_⟩) (by assumption) ?_
            · intro x hSx; go_simp
            try simp only [Act.put, List.setIfInBounds_toArray, List.set_cons_zero, List.set_cons_succ]
            refine takeL (i := 10) (v := .slice (some ⟨gr, 0, none⟩) 6 6) rfl (by kernel_rfl) (by kernel_rfl) (by kernel_rfl) (fun _ _ _ h => h) (Or.inl ⟨by rfl, ?_⟩) (by assumption) ?_
            · intro x hSx; go_simp
            try simp only [Act.put, List.setIfInBounds_toArray, List.set_cons_zero, List.set_cons_succ]
            refine takeL (i := 11) (v := .pointer (some ⟨gi, 1, none⟩)) rfl (by kernel_rfl) (by kernel_rfl) (by kernel_rfl) (fun _ _ _ h => h) (Or.inl ⟨by rfl, ?_⟩) (by assumption) ?_
            · intro x hSx; go_simp
            try simp only [Act.put, List.setIfInBounds_toArray, List.set_cons_zero, List.set_cons_succ]
            refine takeL (i := 12) (v := .pointer (some ⟨gi, 1, none⟩)) rfl (by kernel_rfl) (by kernel_rfl) (by kernel_rfl) (fun _ _ _ h => h) (Or.inl ⟨by rfl, ?_⟩) (by assumption) ?_
            · intro x hSx; go_simp
            try simp only [Act.put, List.setIfInBounds_toArray, List.set_cons_zero, List.set_cons_succ]
            refine takeL (i := 13) (v := .int .i64 5) rfl (by kernel_rfl) (by kernel_rfl) (by kernel_rfl) (fun _ _ _ h => h) (Or.inl ⟨by rfl, ?_⟩) (by assumption) ?_
            · intro x hSx; obtain ⟨d0, d1, d2, d3, d4, d5, d6, d7, d8⟩ := (H5.out x hSx).1; go_simp
            try simp only [Act.put, List.setIfInBounds_toArray, List.set_cons_zero, List.set_cons_succ]
            refine takeL (i := 14) (v := .pointer (some ⟨gr, 5, none⟩)) rfl (by kernel_rfl) (by kernel_rfl) (by kernel_rfl) (fun _ _ _ h => h) (Or.inl ⟨by rfl, ?_⟩) (by assumption) ?_
            · intro x hSx; go_simp
            try simp only [Act.put, List.setIfInBounds_toArray, List.set_cons_zero, List.set_cons_succ]
            refine takeL (i := 15) (v := .func (.func 86) #[] #[.pointer (some ⟨g6, 0, none⟩), .pointer (some ⟨g5, 0, none⟩)]) rfl (by kernel_rfl) (by kernel_rfl) (by kernel_rfl) (fun _ _ _ h => h) (Or.inl ⟨by rfl, ?_⟩) (by assumption) ?_
            · intro x hSx; obtain ⟨e1, e2, e3, e4, e5⟩ := (H5.out x hSx).2.2.1; go_simp
            try simp only [Act.put, List.setIfInBounds_toArray, List.set_cons_zero, List.set_cons_succ]
            refine takeL (i := 16) (v := .pointer (some ⟨gi, 1, none⟩)) rfl (by kernel_rfl) (by kernel_rfl) (by kernel_rfl) (fun _ _ _ h => h) (Or.inl ⟨by rfl, ?_⟩) (by assumption) ?_
            · intro x hSx; go_simp
            try simp only [Act.put, List.setIfInBounds_toArray, List.set_cons_zero, List.set_cons_succ]
            refine takeL (i := 17) (v := .agg #[.int .i64 5, .int .i64 V, .int .i64 U, .int .i64 N, .int .i64 FL, .string US, .string NM, .string TX]) rfl (by kernel_rfl) (by kernel_rfl) (by kernel_rfl) (fun _ _ _ h => h) (Or.inl ⟨by rfl, ?_⟩) (by assumption) ?_
            · intro x hSx; obtain ⟨d0, d1, d2, d3, d4, d5, d6, d7, d8⟩ := (H5.out x hSx).1; go_simp
            try simp only [Act.put, List.setIfInBounds_toArray, List.set_cons_zero, List.set_cons_succ]
            have HCL := Lib.hid ((HWX.out _ (H5.out _ hHeld).2.2.2).2.1)
            refine wpAnyH_ready (rs := [18]) (by kernel_rfl) (by simp) ?_
            refine readyOne rfl (fun K' hK => ?_)
            go_simp
            go_at_call 86
            refine HCL.out.mono ?_
            rintro e wC ⟨rfl, kC⟩
            go_wp2_with fail
            refine hK.out _ _ (hHeld.later kC) (fun hS2 => ?_)
            clear hK K' hHeld HCL
            have hHeld := hS2
            clear hS2
            try simp only [Act.put, List.setIfInBounds_toArray, List.set_cons_zero, List.set_cons_succ]
            replace I6 := I6.later kC
            clear kC
            refine takeL (i := 19) (v := .bool WB) rfl (by kernel_rfl) (by kernel_rfl) (by kernel_rfl) (fun _ _ _ h => h) (Or.inl ⟨by rfl, ?_⟩) (by assumption) ?_
            · intro x hSx; go_simp
            try simp only [Act.put, List.setIfInBounds_toArray, List.set_cons_zero, List.set_cons_succ]
            refine takeL (i := 20) (v := .pointer (some ⟨gB, i, none⟩)) rfl (by kernel_rfl) (by kernel_rfl) (by kernel_rfl) (fun _ _ _ h => h) (Or.inl ⟨by rfl, ?_⟩) (by assumption) ?_
            · intro x hSx; go_simp
            try simp only [Act.put, List.setIfInBounds_toArray, List.set_cons_zero, List.set_cons_succ]
            obtain ⟨cB, lB, hst⟩ := HCB.out _ I6
            have hst2 := hst (WB)
            refine wpAnyH_ready (rs := [21]) (by kernel_rfl) (by simp) ?_
            refine readyOne rfl (fun K' hK => ?_)
            go_simp
            refine hK.out _ _ (hHeld.put i (.bool (WB))) (fun hS2 => ?_)
            clear hK K' cB lB
            try simp only [Act.put, List.setIfInBounds_toArray, List.set_cons_zero, List.set_cons_succ]
            refine wpAnyH_done (by kernel_rfl) ?_ _
            rw [HE.out] at HQS
            rw [HQS.out] at hst2
            have HST := Lib.hid hst2
            have HKS := Lib.hid (ks5.trans hS2)
            clear hst2 hst hS2 hHeld I6
            go_wp2
            exact ⟨⟨i + 1, by omega, by simp, HST.out, HKS.out⟩, by first | omega | (simp [intOf]; omega)⟩
      · have HE : Hid (needL l = needQ l i) := by
          show _ = _
          unfold needL needQ
          rw [decide_eq_true HOK.out, HN.out, show i = n by omega, Nat.sub_self, List.replicate_zero, List.append_nil]
        go_wp2
        go_ret
        refine ⟨_, rfl, ?_⟩
        rw [HE.out, HGB.out]
        exact I

end Go.Proofs.YtlifgcgoehkinaaGreatDoor
